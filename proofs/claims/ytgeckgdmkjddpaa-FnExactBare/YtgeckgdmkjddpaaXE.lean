/- The law's copy of a tree, whole. -/
import Derived.Test.YtgeckgdmkjddpaaQ02
namespace Go.Proofs.Ytgeckgdmkjddpaa
open Go.ChangeShapes Go.WideShapes Go.ChangeAt Go.RowKit

theorem FromK.up {m n : Nat} (h : m ≤ n) : ∀ b, FromK n b → FromK m b := fun _ hb => Nat.le_trans h hb
theorem Stays.less {K K' : Nat → Prop} {w w' : World} (h : Stays K w w') (hk : ∀ b, K' b → K b) : Stays K' w w' := ⟨h.size, fun b hb => h.block b (hk b hb)⟩
theorem stays_from {w w' : World} (n g j : Nat) (v : Value) (h : g < n) (hw : w' = w.setCell ⟨g, j, none⟩ v) : Stays (FromK n) w w' := by
  subst hw
  exact stays_set _ _ _ _ _ fun hk => by have h2 : n ≤ g := hk; omega
theorem heap_alloc3_new (w : World) (A B C : Obj) : (((w.alloc A).alloc B).alloc C).heap[w.heap.size]? = some A ∧ (((w.alloc A).alloc B).alloc C).heap[w.heap.size + 1]? = some B ∧ (((w.alloc A).alloc B).alloc C).heap[w.heap.size + 2]? = some C := by
  have e1 : (w.alloc A).heap.size = w.heap.size + 1 := by simp
  have e2 : ((w.alloc A).alloc B).heap.size = w.heap.size + 2 := by simp
  refine ⟨?_, ?_, ?_⟩
  · rw [Below.heap_alloc _ _ _ (by simp; omega), Below.heap_alloc _ _ _ (by simp)]
    exact heap_alloc_new w A
  · rw [Below.heap_alloc _ _ _ (by simp)]
    exact heap_alloc2_new w A B
  · have h := heap_alloc_new ((w.alloc A).alloc B) C
    rw [e2] at h
    exact h

set_option maxHeartbeats 500000 in
set_option maxRecDepth 100000 in
theorem toExp_step {h : Nat} (i1 : ToEx h) (i2 : ToDe h) (i3 : ToAl h) : ToEx (h + 1) := by
  intro x cs w hrd hwt
  obtain ⟨hss, o1, c1, o2, c2, o3, c3, rfl, hs, hl, hd, ha, q1, q2, q3⟩ := hrd
  have HWT : Hid (x.s.size + lw (wts h).ex x.l + lw (wts h).de x.ds + lw (wts h).al x.al ≤ 1048576) := hwt
  have I1 := hide i1
  have I2 := hide i2
  have I3 := hide i3
  have Q1 := hide q1
  have Q2 := hide q2
  have Q3 := hide q3
  have HSS := hide hss
  have HL4 := hide (And.intro hs (And.intro hl (And.intro hd ha)))
  clear i1 i2 i3 q1 q2 q3 hss hwt hs hl hd ha
  have HX0 : Hid ((((w.alloc (.cells #[.int .i64 x.k, .string x.s, .int .i64 x.n, .slice o1 x.l.length c1, .slice o2 x.ds.length c2, .slice o3 x.al.length c3] 26)).alloc (.cells #[.int .i64 0, .string ⟨#[]⟩, .int .i64 0, .slice none 0 0, .slice none 0 0, .slice none 0 0] 32)).alloc (.cells #[.int .i64 x.k, .string x.s, .int .i64 x.n, .slice none 0 0, .slice none 0 0, .slice none 0 0] 32)).heap[w.heap.size]? = some (.cells #[.int .i64 x.k, .string x.s, .int .i64 x.n, .slice o1 x.l.length c1, .slice o2 x.ds.length c2, .slice o3 x.al.length c3] 26 (0, 0))) := (heap_alloc3_new w _ _ _).1
  have HR0 : Hid ((((w.alloc (.cells #[.int .i64 x.k, .string x.s, .int .i64 x.n, .slice o1 x.l.length c1, .slice o2 x.ds.length c2, .slice o3 x.al.length c3] 26)).alloc (.cells #[.int .i64 0, .string ⟨#[]⟩, .int .i64 0, .slice none 0 0, .slice none 0 0, .slice none 0 0] 32)).alloc (.cells #[.int .i64 x.k, .string x.s, .int .i64 x.n, .slice none 0 0, .slice none 0 0, .slice none 0 0] 32)).heap[w.heap.size + 1]? = some (.cells #[.int .i64 0, .string ⟨#[]⟩, .int .i64 0, .slice none 0 0, .slice none 0 0, .slice none 0 0] 32 (0, 0))) := (heap_alloc3_new w _ _ _).2.1
  have HO0 : Hid ((((w.alloc (.cells #[.int .i64 x.k, .string x.s, .int .i64 x.n, .slice o1 x.l.length c1, .slice o2 x.ds.length c2, .slice o3 x.al.length c3] 26)).alloc (.cells #[.int .i64 0, .string ⟨#[]⟩, .int .i64 0, .slice none 0 0, .slice none 0 0, .slice none 0 0] 32)).alloc (.cells #[.int .i64 x.k, .string x.s, .int .i64 x.n, .slice none 0 0, .slice none 0 0, .slice none 0 0] 32)).heap[w.heap.size + 2]? = some (.cells #[.int .i64 x.k, .string x.s, .int .i64 x.n, .slice none 0 0, .slice none 0 0, .slice none 0 0] 32 (0, 0))) := (heap_alloc3_new w _ _ _).2.2
  have HB0 : Hid (Below w.heap.size w (((w.alloc (.cells #[.int .i64 x.k, .string x.s, .int .i64 x.n, .slice o1 x.l.length c1, .slice o2 x.ds.length c2, .slice o3 x.al.length c3] 26)).alloc (.cells #[.int .i64 0, .string ⟨#[]⟩, .int .i64 0, .slice none 0 0, .slice none 0 0, .slice none 0 0] 32)).alloc (.cells #[.int .i64 x.k, .string x.s, .int .i64 x.n, .slice none 0 0, .slice none 0 0, .slice none 0 0] 32))) := (((Below.refl _ w).alloc (Nat.le_refl _) _).alloc (by simp) _).alloc (by simp; omega) _
  have hz0 : w.heap.size + 3 ≤ (((w.alloc (.cells #[.int .i64 x.k, .string x.s, .int .i64 x.n, .slice o1 x.l.length c1, .slice o2 x.ds.length c2, .slice o3 x.al.length c3] 26)).alloc (.cells #[.int .i64 0, .string ⟨#[]⟩, .int .i64 0, .slice none 0 0, .slice none 0 0, .slice none 0 0] 32)).alloc (.cells #[.int .i64 x.k, .string x.s, .int .i64 x.n, .slice none 0 0, .slice none 0 0, .slice none 0 0] 32)).heap.size := by simp
  have HPL0 : Hid (Plain w (((w.alloc (.cells #[.int .i64 x.k, .string x.s, .int .i64 x.n, .slice o1 x.l.length c1, .slice o2 x.ds.length c2, .slice o3 x.al.length c3] 26)).alloc (.cells #[.int .i64 0, .string ⟨#[]⟩, .int .i64 0, .slice none 0 0, .slice none 0 0, .slice none 0 0] 32)).alloc (.cells #[.int .i64 x.k, .string x.s, .int .i64 x.n, .slice none 0 0, .slice none 0 0, .slice none 0 0] 32))) := (((Plain.refl w).alloc _ _).alloc _ _).alloc _ _
  go_enter Try.func7, Try.ntmps7
  go_wp2_with fail
  refine (toExpS_of I1.out x.l o1 c1 _ (by have := HWT.out; omega) (Q1.out.later HB0.out (reads_later HB0.out h).1)).mono ?_
  rintro e w1 ⟨p1, d1, rfl, hcap1, hrw, hb, hpl⟩
  have HPL1' := hide (HPL0.out.on hpl hb)
  clear hpl
  have HBK1 := hide hb
  have HB1' := hide (HB0.out.trans (hb.mono HB0.out.size))
  have HX1' := hide ((hb.block (w.heap.size) (by omega)).trans HX0.out)
  have HR1' := hide ((hb.block (w.heap.size + 1) (by omega)).trans HR0.out)
  have HO1' := hide ((hb.block (w.heap.size + 2) (by omega)).trans HO0.out)
  have hz1' : w.heap.size + 3 ≤ w1.heap.size := Nat.le_trans hz0 hb.size
  have HRW1 := hide hrw
  clear hrw hb
  have s3_1 := cell_of HO1'.out 3
  have f3_1 := frozen_of HO1'.out 3
  have b4_1 := cell_of HX1'.out 4
  simp only [List.getElem?_toArray, List.getElem?_cons_succ, List.getElem?_cons_zero] at s3_1 b4_1
  have HX1 : Hid ((w1.setCell ⟨w.heap.size + 2, 3, none⟩ (.slice p1 x.l.length d1)).heap[w.heap.size]? = some (.cells #[.int .i64 x.k, .string x.s, .int .i64 x.n, .slice o1 x.l.length c1, .slice o2 x.ds.length c2, .slice o3 x.al.length c3] 26 (0, 0))) := (heap_set_other _ (by omega)).trans (HX1'.out)
  have HR1 : Hid ((w1.setCell ⟨w.heap.size + 2, 3, none⟩ (.slice p1 x.l.length d1)).heap[w.heap.size + 1]? = some (.cells #[.int .i64 0, .string ⟨#[]⟩, .int .i64 0, .slice none 0 0, .slice none 0 0, .slice none 0 0] 32 (0, 0))) := (heap_set_other _ (by omega)).trans (HR1'.out)
  have HO1 : Hid ((w1.setCell ⟨w.heap.size + 2, 3, none⟩ (.slice p1 x.l.length d1)).heap[w.heap.size + 2]? = some (.cells #[.int .i64 x.k, .string x.s, .int .i64 x.n, .slice p1 x.l.length d1, .slice none 0 0, .slice none 0 0] 32 (0, 0))) := heap_set_same _ (HO1'.out)
  have HB1 : Hid (Below w.heap.size w (w1.setCell ⟨w.heap.size + 2, 3, none⟩ (.slice p1 x.l.length d1))) := (HB1'.out.setCell (Nat.le_add_right _ _) _)
  have hz1 : w.heap.size + 3 ≤ (w1.setCell ⟨w.heap.size + 2, 3, none⟩ (.slice p1 x.l.length d1)).heap.size := by simpa using hz1'
  have HPL1 : Hid (Plain w (w1.setCell ⟨w.heap.size + 2, 3, none⟩ (.slice p1 x.l.length d1))) := (HPL1'.out.set _ _ _)
  have HS1 : Hid (Stays (FromK (w.heap.size + 3)) w1 (w1.setCell ⟨w.heap.size + 2, 3, none⟩ (.slice p1 x.l.length d1))) := (stays_from _ (w.heap.size + 2) 3 (.slice p1 x.l.length d1) (by omega) rfl)
  go_wp2_with fail
  refine (toDecS_of I2.out x.ds o2 c2 _ (by have := HWT.out; omega) (Q2.out.later HB1.out (reads_later HB1.out h).2.1)).mono ?_
  rintro e w2 ⟨p2, d2, rfl, hcap2, hrw, hb, hpl⟩
  have HPL2' := hide (HPL1.out.on hpl hb)
  clear hpl
  have HBK2 := hide hb
  have HB2' := hide (HB1.out.trans (hb.mono HB1.out.size))
  have HX2' := hide ((hb.block (w.heap.size) (by omega)).trans HX1.out)
  have HR2' := hide ((hb.block (w.heap.size + 1) (by omega)).trans HR1.out)
  have HO2' := hide ((hb.block (w.heap.size + 2) (by omega)).trans HO1.out)
  have hz2' : w.heap.size + 3 ≤ w2.heap.size := Nat.le_trans hz1 hb.size
  have HRW2 := hide hrw
  clear hrw hb
  have s4_2 := cell_of HO2'.out 4
  have f4_2 := frozen_of HO2'.out 4
  have b5_2 := cell_of HX2'.out 5
  simp only [List.getElem?_toArray, List.getElem?_cons_succ, List.getElem?_cons_zero] at s4_2 b5_2
  have HX2 : Hid ((w2.setCell ⟨w.heap.size + 2, 4, none⟩ (.slice p2 x.ds.length d2)).heap[w.heap.size]? = some (.cells #[.int .i64 x.k, .string x.s, .int .i64 x.n, .slice o1 x.l.length c1, .slice o2 x.ds.length c2, .slice o3 x.al.length c3] 26 (0, 0))) := (heap_set_other _ (by omega)).trans (HX2'.out)
  have HR2 : Hid ((w2.setCell ⟨w.heap.size + 2, 4, none⟩ (.slice p2 x.ds.length d2)).heap[w.heap.size + 1]? = some (.cells #[.int .i64 0, .string ⟨#[]⟩, .int .i64 0, .slice none 0 0, .slice none 0 0, .slice none 0 0] 32 (0, 0))) := (heap_set_other _ (by omega)).trans (HR2'.out)
  have HO2 : Hid ((w2.setCell ⟨w.heap.size + 2, 4, none⟩ (.slice p2 x.ds.length d2)).heap[w.heap.size + 2]? = some (.cells #[.int .i64 x.k, .string x.s, .int .i64 x.n, .slice p1 x.l.length d1, .slice p2 x.ds.length d2, .slice none 0 0] 32 (0, 0))) := heap_set_same _ (HO2'.out)
  have HB2 : Hid (Below w.heap.size w (w2.setCell ⟨w.heap.size + 2, 4, none⟩ (.slice p2 x.ds.length d2))) := (HB2'.out.setCell (Nat.le_add_right _ _) _)
  have hz2 : w.heap.size + 3 ≤ (w2.setCell ⟨w.heap.size + 2, 4, none⟩ (.slice p2 x.ds.length d2)).heap.size := by simpa using hz2'
  have HPL2 : Hid (Plain w (w2.setCell ⟨w.heap.size + 2, 4, none⟩ (.slice p2 x.ds.length d2))) := (HPL2'.out.set _ _ _)
  have HS2 : Hid (Stays (FromK (w.heap.size + 3)) w2 (w2.setCell ⟨w.heap.size + 2, 4, none⟩ (.slice p2 x.ds.length d2))) := (stays_from _ (w.heap.size + 2) 4 (.slice p2 x.ds.length d2) (by omega) rfl)
  go_wp2_with fail
  refine (toAltS_of I3.out x.al o3 c3 _ (by have := HWT.out; omega) (Q3.out.later HB2.out (reads_later HB2.out h).2.2)).mono ?_
  rintro e w3 ⟨p3, d3, rfl, hcap3, hrw, hb, hpl⟩
  have HPL3' := hide (HPL2.out.on hpl hb)
  clear hpl
  have HBK3 := hide hb
  have HB3' := hide (HB2.out.trans (hb.mono HB2.out.size))
  have HX3' := hide ((hb.block (w.heap.size) (by omega)).trans HX2.out)
  have HR3' := hide ((hb.block (w.heap.size + 1) (by omega)).trans HR2.out)
  have HO3' := hide ((hb.block (w.heap.size + 2) (by omega)).trans HO2.out)
  have hz3' : w.heap.size + 3 ≤ w3.heap.size := Nat.le_trans hz2 hb.size
  have HRW3 := hide hrw
  clear hrw hb
  have s5_3 := cell_of HO3'.out 5
  have f5_3 := frozen_of HO3'.out 5
  have o0_3 := cell_of HO3'.out 0
  have r0_3 := cell_of HR3'.out 0
  have e0_3 := frozen_of HR3'.out 0
  have o1_3 := cell_of HO3'.out 1
  have r1_3 := cell_of HR3'.out 1
  have e1_3 := frozen_of HR3'.out 1
  have o2_3 := cell_of HO3'.out 2
  have r2_3 := cell_of HR3'.out 2
  have e2_3 := frozen_of HR3'.out 2
  have o3_3 := cell_of HO3'.out 3
  have r3_3 := cell_of HR3'.out 3
  have e3_3 := frozen_of HR3'.out 3
  have o4_3 := cell_of HO3'.out 4
  have r4_3 := cell_of HR3'.out 4
  have e4_3 := frozen_of HR3'.out 4
  have o5_3 := cell_of HO3'.out 5
  have r5_3 := cell_of HR3'.out 5
  have e5_3 := frozen_of HR3'.out 5
  simp only [List.getElem?_toArray, List.getElem?_cons_succ, List.getElem?_cons_zero] at s5_3 o0_3 o1_3 o2_3 o3_3 o4_3 o5_3 r0_3 r1_3 r2_3 r3_3 r4_3 r5_3
  have HX3 : Hid ((w3.setCell ⟨w.heap.size + 2, 5, none⟩ (.slice p3 x.al.length d3)).heap[w.heap.size]? = some (.cells #[.int .i64 x.k, .string x.s, .int .i64 x.n, .slice o1 x.l.length c1, .slice o2 x.ds.length c2, .slice o3 x.al.length c3] 26 (0, 0))) := (heap_set_other _ (by omega)).trans (HX3'.out)
  have HR3 : Hid ((w3.setCell ⟨w.heap.size + 2, 5, none⟩ (.slice p3 x.al.length d3)).heap[w.heap.size + 1]? = some (.cells #[.int .i64 0, .string ⟨#[]⟩, .int .i64 0, .slice none 0 0, .slice none 0 0, .slice none 0 0] 32 (0, 0))) := (heap_set_other _ (by omega)).trans (HR3'.out)
  have HO3 : Hid ((w3.setCell ⟨w.heap.size + 2, 5, none⟩ (.slice p3 x.al.length d3)).heap[w.heap.size + 2]? = some (.cells #[.int .i64 x.k, .string x.s, .int .i64 x.n, .slice p1 x.l.length d1, .slice p2 x.ds.length d2, .slice p3 x.al.length d3] 32 (0, 0))) := heap_set_same _ (HO3'.out)
  have HB3 : Hid (Below w.heap.size w (w3.setCell ⟨w.heap.size + 2, 5, none⟩ (.slice p3 x.al.length d3))) := (HB3'.out.setCell (Nat.le_add_right _ _) _)
  have hz3 : w.heap.size + 3 ≤ (w3.setCell ⟨w.heap.size + 2, 5, none⟩ (.slice p3 x.al.length d3)).heap.size := by simpa using hz3'
  have HPL3 : Hid (Plain w (w3.setCell ⟨w.heap.size + 2, 5, none⟩ (.slice p3 x.al.length d3))) := (HPL3'.out.set _ _ _)
  have HS3 : Hid (Stays (FromK (w.heap.size + 3)) w3 (w3.setCell ⟨w.heap.size + 2, 5, none⟩ (.slice p3 x.al.length d3))) := (stays_from _ (w.heap.size + 2) 5 (.slice p3 x.al.length d3) (by omega) rfl)
  have HRF0 : Hid (((w3.setCell ⟨w.heap.size + 2, 5, none⟩ (.slice p3 x.al.length d3)).setCell ⟨w.heap.size + 1, 0, none⟩ (.int .i64 x.k)).heap[w.heap.size + 1]? = some (.cells #[.int .i64 x.k, .string ⟨#[]⟩, .int .i64 0, .slice none 0 0, .slice none 0 0, .slice none 0 0] 32 (0, 0))) := heap_set_same _ HR3.out
  have HRF1 : Hid ((((w3.setCell ⟨w.heap.size + 2, 5, none⟩ (.slice p3 x.al.length d3)).setCell ⟨w.heap.size + 1, 0, none⟩ (.int .i64 x.k)).setCell ⟨w.heap.size + 1, 1, none⟩ (.string x.s)).heap[w.heap.size + 1]? = some (.cells #[.int .i64 x.k, .string x.s, .int .i64 0, .slice none 0 0, .slice none 0 0, .slice none 0 0] 32 (0, 0))) := heap_set_same _ HRF0.out
  have HRF2 : Hid (((((w3.setCell ⟨w.heap.size + 2, 5, none⟩ (.slice p3 x.al.length d3)).setCell ⟨w.heap.size + 1, 0, none⟩ (.int .i64 x.k)).setCell ⟨w.heap.size + 1, 1, none⟩ (.string x.s)).setCell ⟨w.heap.size + 1, 2, none⟩ (.int .i64 x.n)).heap[w.heap.size + 1]? = some (.cells #[.int .i64 x.k, .string x.s, .int .i64 x.n, .slice none 0 0, .slice none 0 0, .slice none 0 0] 32 (0, 0))) := heap_set_same _ HRF1.out
  have HRF3 : Hid ((((((w3.setCell ⟨w.heap.size + 2, 5, none⟩ (.slice p3 x.al.length d3)).setCell ⟨w.heap.size + 1, 0, none⟩ (.int .i64 x.k)).setCell ⟨w.heap.size + 1, 1, none⟩ (.string x.s)).setCell ⟨w.heap.size + 1, 2, none⟩ (.int .i64 x.n)).setCell ⟨w.heap.size + 1, 3, none⟩ (.slice p1 x.l.length d1)).heap[w.heap.size + 1]? = some (.cells #[.int .i64 x.k, .string x.s, .int .i64 x.n, .slice p1 x.l.length d1, .slice none 0 0, .slice none 0 0] 32 (0, 0))) := heap_set_same _ HRF2.out
  have HRF4 : Hid (((((((w3.setCell ⟨w.heap.size + 2, 5, none⟩ (.slice p3 x.al.length d3)).setCell ⟨w.heap.size + 1, 0, none⟩ (.int .i64 x.k)).setCell ⟨w.heap.size + 1, 1, none⟩ (.string x.s)).setCell ⟨w.heap.size + 1, 2, none⟩ (.int .i64 x.n)).setCell ⟨w.heap.size + 1, 3, none⟩ (.slice p1 x.l.length d1)).setCell ⟨w.heap.size + 1, 4, none⟩ (.slice p2 x.ds.length d2)).heap[w.heap.size + 1]? = some (.cells #[.int .i64 x.k, .string x.s, .int .i64 x.n, .slice p1 x.l.length d1, .slice p2 x.ds.length d2, .slice none 0 0] 32 (0, 0))) := heap_set_same _ HRF3.out
  have HRF5 : Hid ((((((((w3.setCell ⟨w.heap.size + 2, 5, none⟩ (.slice p3 x.al.length d3)).setCell ⟨w.heap.size + 1, 0, none⟩ (.int .i64 x.k)).setCell ⟨w.heap.size + 1, 1, none⟩ (.string x.s)).setCell ⟨w.heap.size + 1, 2, none⟩ (.int .i64 x.n)).setCell ⟨w.heap.size + 1, 3, none⟩ (.slice p1 x.l.length d1)).setCell ⟨w.heap.size + 1, 4, none⟩ (.slice p2 x.ds.length d2)).setCell ⟨w.heap.size + 1, 5, none⟩ (.slice p3 x.al.length d3)).heap[w.heap.size + 1]? = some (.cells #[.int .i64 x.k, .string x.s, .int .i64 x.n, .slice p1 x.l.length d1, .slice p2 x.ds.length d2, .slice p3 x.al.length d3] 32 (0, 0))) := heap_set_same _ HRF4.out
  go_wp2
  have stw3 := Stays.trans (Stays.trans (Stays.trans (Stays.trans (Stays.trans (Stays.trans (HS3.out) (stays_from (w.heap.size + 3) (w.heap.size + 1) 0 (.int .i64 x.k) (by omega) rfl)) (stays_from (w.heap.size + 3) (w.heap.size + 1) 1 (.string x.s) (by omega) rfl)) (stays_from (w.heap.size + 3) (w.heap.size + 1) 2 (.int .i64 x.n) (by omega) rfl)) (stays_from (w.heap.size + 3) (w.heap.size + 1) 3 (.slice p1 x.l.length d1) (by omega) rfl)) (stays_from (w.heap.size + 3) (w.heap.size + 1) 4 (.slice p2 x.ds.length d2) (by omega) rfl)) (stays_from (w.heap.size + 3) (w.heap.size + 1) 5 (.slice p3 x.al.length d3) (by omega) rfl)
  have stw2 := (HS2.out.trans (Stays.of HBK3.out)).trans stw3
  have stw1 := (HS1.out.trans (Stays.of HBK2.out)).trans stw2
  refine bodyPost_ret (v := .agg #[.int .i64 x.k, .string x.s, .int .i64 x.n, .slice p1 x.l.length d1, .slice p2 x.ds.length d2, .slice p3 x.al.length d3]) ?_ rfl ?_
  · exact results_cell_row rfl _ _ (w.heap.size + 1) 32 _ (0, 0) _ rfl (HRF5.out) Try.underlying32 rfl (by kernel_rfl)
  · refine ⟨[.int .i64 x.k, .string x.s, .int .i64 x.n, .slice p1 x.l.length d1, .slice p2 x.ds.length d2, .slice p3 x.al.length d3], rfl, rfl, ?_, ?_, ((((((HPL3.out.set _ _ _).set _ _ _).set _ _ _).set _ _ _).set _ _ _).set _ _ _)⟩
    · skip
      have rw1 := HRW1.out.frame (stw1.less (FromK.up hz0)) (FromK.up (m := w.heap.size) (Nat.le_trans (Nat.le_add_right _ 3) hz0)) (reads_frame (stw1.less (FromK.up hz0)) (FromK.up (m := w.heap.size) (Nat.le_trans (Nat.le_add_right _ 3) hz0)) h).1
      have rw2 := HRW2.out.frame (stw2.less (FromK.up hz1)) (FromK.up (m := w.heap.size) (Nat.le_trans (Nat.le_add_right _ 3) hz1)) (reads_frame (stw2.less (FromK.up hz1)) (FromK.up (m := w.heap.size) (Nat.le_trans (Nat.le_add_right _ 3) hz1)) h).2.1
      have rw3 := HRW3.out.frame (stw3.less (FromK.up hz2)) (FromK.up (m := w.heap.size) (Nat.le_trans (Nat.le_add_right _ 3) hz2)) (reads_frame (stw3.less (FromK.up hz2)) (FromK.up (m := w.heap.size) (Nat.le_trans (Nat.le_add_right _ 3) hz2)) h).2.2
      exact ⟨HSS.out, p1, d1, p2, d2, p3, d3, rfl, HL4.out.1, ⟨HL4.out.2.1.1, hcap1⟩, ⟨HL4.out.2.2.1.1, hcap2⟩, ⟨HL4.out.2.2.2.1, hcap3⟩, rw1, rw2, rw3⟩
    · exact ((((((HB3.out.setCell (Nat.le_add_right _ _) _).setCell (Nat.le_add_right _ _) _).setCell (Nat.le_add_right _ _) _).setCell (Nat.le_add_right _ _) _).setCell (Nat.le_add_right _ _) _).setCell (Nat.le_add_right _ _) _)

set_option maxHeartbeats 500000 in
set_option maxRecDepth 100000 in
theorem toDec_step {h : Nat} (i1 : ToEx h) (i2 : ToDe h) : ToDe (h + 1) := by
  intro x cs w hrd hwt
  obtain ⟨z1, z2, z3, y, o1, c1, ce, o2, c2, hy, rfl, hs, hl, hd, q1, hce, q2, q3⟩ := hrd
  obtain ⟨a0, a1, a2, a3, a4, a5, rfl⟩ := six hce
  simp only [List.cons_append, List.nil_append]
  have HWT : Hid (x.s.size + sw x.ss + (wts h).ex y + lw (wts h).de x.ds ≤ 1048576) := by
    have h1 : x.s.size + sw x.ss + (x.l.map (wts h).ex).sum + lw (wts h).de x.ds ≤ 1048576 := hwt
    rw [hy] at h1
    simp only [List.map_cons, List.map_nil, List.sum_cons, List.sum_nil] at h1
    exact (by omega : x.s.size + sw x.ss + (wts h).ex y + lw (wts h).de x.ds ≤ 1048576)
  have I1 := hide i1
  have I2 := hide i2
  have Q3 := hide q3
  have Q1 := hide q1
  have Q2 := hide q2
  have HY := hide hy
  have HL4 := hide (And.intro hs (And.intro hl hd))
  have HZ := hide (And.intro z1 (And.intro z2 z3))
  clear i1 q1 q2 hy hwt hs hl hce hd q3 i2 z1 z2 z3
  have HX0 : Hid ((((w.alloc (.cells #[.string x.s, .slice o1 x.ss.length c1, a0, a1, a2, a3, a4, a5, .slice o2 x.ds.length c2] 40)).alloc (.cells #[.string ⟨#[]⟩, .slice none 0 0, .int .i64 0, .string ⟨#[]⟩, .int .i64 0, .slice none 0 0, .slice none 0 0, .slice none 0 0, .slice none 0 0] 44)).alloc (.cells #[.string x.s, .slice none 0 0, .int .i64 0, .string ⟨#[]⟩, .int .i64 0, .slice none 0 0, .slice none 0 0, .slice none 0 0, .slice none 0 0] 44)).heap[w.heap.size]? = some (.cells #[.string x.s, .slice o1 x.ss.length c1, a0, a1, a2, a3, a4, a5, .slice o2 x.ds.length c2] 40 (0, 0))) := (heap_alloc3_new w _ _ _).1
  have HR0 : Hid ((((w.alloc (.cells #[.string x.s, .slice o1 x.ss.length c1, a0, a1, a2, a3, a4, a5, .slice o2 x.ds.length c2] 40)).alloc (.cells #[.string ⟨#[]⟩, .slice none 0 0, .int .i64 0, .string ⟨#[]⟩, .int .i64 0, .slice none 0 0, .slice none 0 0, .slice none 0 0, .slice none 0 0] 44)).alloc (.cells #[.string x.s, .slice none 0 0, .int .i64 0, .string ⟨#[]⟩, .int .i64 0, .slice none 0 0, .slice none 0 0, .slice none 0 0, .slice none 0 0] 44)).heap[w.heap.size + 1]? = some (.cells #[.string ⟨#[]⟩, .slice none 0 0, .int .i64 0, .string ⟨#[]⟩, .int .i64 0, .slice none 0 0, .slice none 0 0, .slice none 0 0, .slice none 0 0] 44 (0, 0))) := (heap_alloc3_new w _ _ _).2.1
  have HO0 : Hid ((((w.alloc (.cells #[.string x.s, .slice o1 x.ss.length c1, a0, a1, a2, a3, a4, a5, .slice o2 x.ds.length c2] 40)).alloc (.cells #[.string ⟨#[]⟩, .slice none 0 0, .int .i64 0, .string ⟨#[]⟩, .int .i64 0, .slice none 0 0, .slice none 0 0, .slice none 0 0, .slice none 0 0] 44)).alloc (.cells #[.string x.s, .slice none 0 0, .int .i64 0, .string ⟨#[]⟩, .int .i64 0, .slice none 0 0, .slice none 0 0, .slice none 0 0, .slice none 0 0] 44)).heap[w.heap.size + 2]? = some (.cells #[.string x.s, .slice none 0 0, .int .i64 0, .string ⟨#[]⟩, .int .i64 0, .slice none 0 0, .slice none 0 0, .slice none 0 0, .slice none 0 0] 44 (0, 0))) := (heap_alloc3_new w _ _ _).2.2
  have HB0 : Hid (Below w.heap.size w (((w.alloc (.cells #[.string x.s, .slice o1 x.ss.length c1, a0, a1, a2, a3, a4, a5, .slice o2 x.ds.length c2] 40)).alloc (.cells #[.string ⟨#[]⟩, .slice none 0 0, .int .i64 0, .string ⟨#[]⟩, .int .i64 0, .slice none 0 0, .slice none 0 0, .slice none 0 0, .slice none 0 0] 44)).alloc (.cells #[.string x.s, .slice none 0 0, .int .i64 0, .string ⟨#[]⟩, .int .i64 0, .slice none 0 0, .slice none 0 0, .slice none 0 0, .slice none 0 0] 44))) := (((Below.refl _ w).alloc (Nat.le_refl _) _).alloc (by simp) _).alloc (by simp; omega) _
  have hz0 : w.heap.size + 3 ≤ (((w.alloc (.cells #[.string x.s, .slice o1 x.ss.length c1, a0, a1, a2, a3, a4, a5, .slice o2 x.ds.length c2] 40)).alloc (.cells #[.string ⟨#[]⟩, .slice none 0 0, .int .i64 0, .string ⟨#[]⟩, .int .i64 0, .slice none 0 0, .slice none 0 0, .slice none 0 0, .slice none 0 0] 44)).alloc (.cells #[.string x.s, .slice none 0 0, .int .i64 0, .string ⟨#[]⟩, .int .i64 0, .slice none 0 0, .slice none 0 0, .slice none 0 0, .slice none 0 0] 44)).heap.size := by simp
  have HPL0 : Hid (Plain w (((w.alloc (.cells #[.string x.s, .slice o1 x.ss.length c1, a0, a1, a2, a3, a4, a5, .slice o2 x.ds.length c2] 40)).alloc (.cells #[.string ⟨#[]⟩, .slice none 0 0, .int .i64 0, .string ⟨#[]⟩, .int .i64 0, .slice none 0 0, .slice none 0 0, .slice none 0 0, .slice none 0 0] 44)).alloc (.cells #[.string x.s, .slice none 0 0, .int .i64 0, .string ⟨#[]⟩, .int .i64 0, .slice none 0 0, .slice none 0 0, .slice none 0 0, .slice none 0 0] 44))) := (((Plain.refl w).alloc _ _).alloc _ _).alloc _ _
  go_enter Try.func14, Try.ntmps14
  go_wp2_with fail
  refine (toStringS_any x.ss o1 c1 _ (by have := HWT.out; unfold sw at this; omega) (Q1.out.later HB0.out fun _ _ h => h)).mono ?_
  rintro e w1 ⟨p1, d1, rfl, hcap1, hrw, hb, hpl⟩
  have HPL1' := hide (HPL0.out.on hpl hb)
  clear hpl
  have HBK1 := hide hb
  have HB1' := hide (HB0.out.trans (hb.mono HB0.out.size))
  have HX1' := hide ((hb.block (w.heap.size) (by omega)).trans HX0.out)
  have HR1' := hide ((hb.block (w.heap.size + 1) (by omega)).trans HR0.out)
  have HO1' := hide ((hb.block (w.heap.size + 2) (by omega)).trans HO0.out)
  have hz1' : w.heap.size + 3 ≤ w1.heap.size := Nat.le_trans hz0 hb.size
  have HRW1 := hide hrw
  clear hrw hb
  have s1_1 := cell_of HO1'.out 1
  have f1_1 := frozen_of HO1'.out 1
  have b2_1 := cell_of HX1'.out 2
  have b3_1 := cell_of HX1'.out 3
  have b4_1 := cell_of HX1'.out 4
  have b5_1 := cell_of HX1'.out 5
  have b6_1 := cell_of HX1'.out 6
  have b7_1 := cell_of HX1'.out 7
  simp only [List.getElem?_toArray, List.getElem?_cons_succ, List.getElem?_cons_zero] at s1_1 b2_1 b3_1 b4_1 b5_1 b6_1 b7_1
  have HX1 : Hid ((w1.setCell ⟨w.heap.size + 2, 1, none⟩ (.slice p1 x.ss.length d1)).heap[w.heap.size]? = some (.cells #[.string x.s, .slice o1 x.ss.length c1, a0, a1, a2, a3, a4, a5, .slice o2 x.ds.length c2] 40 (0, 0))) := (heap_set_other _ (by omega)).trans (HX1'.out)
  have HR1 : Hid ((w1.setCell ⟨w.heap.size + 2, 1, none⟩ (.slice p1 x.ss.length d1)).heap[w.heap.size + 1]? = some (.cells #[.string ⟨#[]⟩, .slice none 0 0, .int .i64 0, .string ⟨#[]⟩, .int .i64 0, .slice none 0 0, .slice none 0 0, .slice none 0 0, .slice none 0 0] 44 (0, 0))) := (heap_set_other _ (by omega)).trans (HR1'.out)
  have HO1 : Hid ((w1.setCell ⟨w.heap.size + 2, 1, none⟩ (.slice p1 x.ss.length d1)).heap[w.heap.size + 2]? = some (.cells #[.string x.s, .slice p1 x.ss.length d1, .int .i64 0, .string ⟨#[]⟩, .int .i64 0, .slice none 0 0, .slice none 0 0, .slice none 0 0, .slice none 0 0] 44 (0, 0))) := heap_set_same _ (HO1'.out)
  have HB1 : Hid (Below w.heap.size w (w1.setCell ⟨w.heap.size + 2, 1, none⟩ (.slice p1 x.ss.length d1))) := (HB1'.out.setCell (Nat.le_add_right _ _) _)
  have hz1 : w.heap.size + 3 ≤ (w1.setCell ⟨w.heap.size + 2, 1, none⟩ (.slice p1 x.ss.length d1)).heap.size := by simpa using hz1'
  have HPL1 : Hid (Plain w (w1.setCell ⟨w.heap.size + 2, 1, none⟩ (.slice p1 x.ss.length d1))) := (HPL1'.out.set _ _ _)
  have HS1 : Hid (Stays (FromK (w.heap.size + 3)) w1 (w1.setCell ⟨w.heap.size + 2, 1, none⟩ (.slice p1 x.ss.length d1))) := (stays_from _ (w.heap.size + 2) 1 (.slice p1 x.ss.length d1) (by omega) rfl)
  go_wp2_with fail
  refine (I1.out y _ _ ((reads_later HB1.out h).1 _ _ Q2.out) (by have := HWT.out; omega)).mono ?_
  rintro e w2 ⟨ce, rfl, hlen, hrw, hb, hpl⟩
  obtain ⟨r1, e1, r2, e2, r3, e3, rfl⟩ := ex_form hrw
  clear hlen
  have HPL2' := hide (HPL1.out.on hpl hb)
  clear hpl
  have HBK2 := hide hb
  have HB2' := hide (HB1.out.trans (hb.mono HB1.out.size))
  have HX2' := hide ((hb.block (w.heap.size) (by omega)).trans HX1.out)
  have HR2' := hide ((hb.block (w.heap.size + 1) (by omega)).trans HR1.out)
  have HO2' := hide ((hb.block (w.heap.size + 2) (by omega)).trans HO1.out)
  have hz2' : w.heap.size + 3 ≤ w2.heap.size := Nat.le_trans hz1 hb.size
  have HRW2 := hide hrw
  clear hrw hb
  have s2_2 := cell_of HO2'.out 2
  have f2_2 := frozen_of HO2'.out 2
  have s3_2 := cell_of HO2'.out 3
  have f3_2 := frozen_of HO2'.out 3
  have s4_2 := cell_of HO2'.out 4
  have f4_2 := frozen_of HO2'.out 4
  have s5_2 := cell_of HO2'.out 5
  have f5_2 := frozen_of HO2'.out 5
  have s6_2 := cell_of HO2'.out 6
  have f6_2 := frozen_of HO2'.out 6
  have s7_2 := cell_of HO2'.out 7
  have f7_2 := frozen_of HO2'.out 7
  have b8_2 := cell_of HX2'.out 8
  simp only [List.getElem?_toArray, List.getElem?_cons_succ, List.getElem?_cons_zero] at s2_2 s3_2 s4_2 s5_2 s6_2 s7_2 b8_2
  have HX2 : Hid (((((((w2.setCell ⟨w.heap.size + 2, 2, none⟩ (.int .i64 y.k)).setCell ⟨w.heap.size + 2, 3, none⟩ (.string y.s)).setCell ⟨w.heap.size + 2, 4, none⟩ (.int .i64 y.n)).setCell ⟨w.heap.size + 2, 5, none⟩ (.slice r1 y.l.length e1)).setCell ⟨w.heap.size + 2, 6, none⟩ (.slice r2 y.ds.length e2)).setCell ⟨w.heap.size + 2, 7, none⟩ (.slice r3 y.al.length e3)).heap[w.heap.size]? = some (.cells #[.string x.s, .slice o1 x.ss.length c1, a0, a1, a2, a3, a4, a5, .slice o2 x.ds.length c2] 40 (0, 0))) := (heap_set_other _ (by omega)).trans ((heap_set_other _ (by omega)).trans ((heap_set_other _ (by omega)).trans ((heap_set_other _ (by omega)).trans ((heap_set_other _ (by omega)).trans ((heap_set_other _ (by omega)).trans (HX2'.out))))))
  have HR2 : Hid (((((((w2.setCell ⟨w.heap.size + 2, 2, none⟩ (.int .i64 y.k)).setCell ⟨w.heap.size + 2, 3, none⟩ (.string y.s)).setCell ⟨w.heap.size + 2, 4, none⟩ (.int .i64 y.n)).setCell ⟨w.heap.size + 2, 5, none⟩ (.slice r1 y.l.length e1)).setCell ⟨w.heap.size + 2, 6, none⟩ (.slice r2 y.ds.length e2)).setCell ⟨w.heap.size + 2, 7, none⟩ (.slice r3 y.al.length e3)).heap[w.heap.size + 1]? = some (.cells #[.string ⟨#[]⟩, .slice none 0 0, .int .i64 0, .string ⟨#[]⟩, .int .i64 0, .slice none 0 0, .slice none 0 0, .slice none 0 0, .slice none 0 0] 44 (0, 0))) := (heap_set_other _ (by omega)).trans ((heap_set_other _ (by omega)).trans ((heap_set_other _ (by omega)).trans ((heap_set_other _ (by omega)).trans ((heap_set_other _ (by omega)).trans ((heap_set_other _ (by omega)).trans (HR2'.out))))))
  have HO2 : Hid (((((((w2.setCell ⟨w.heap.size + 2, 2, none⟩ (.int .i64 y.k)).setCell ⟨w.heap.size + 2, 3, none⟩ (.string y.s)).setCell ⟨w.heap.size + 2, 4, none⟩ (.int .i64 y.n)).setCell ⟨w.heap.size + 2, 5, none⟩ (.slice r1 y.l.length e1)).setCell ⟨w.heap.size + 2, 6, none⟩ (.slice r2 y.ds.length e2)).setCell ⟨w.heap.size + 2, 7, none⟩ (.slice r3 y.al.length e3)).heap[w.heap.size + 2]? = some (.cells #[.string x.s, .slice p1 x.ss.length d1, .int .i64 y.k, .string y.s, .int .i64 y.n, .slice r1 y.l.length e1, .slice r2 y.ds.length e2, .slice r3 y.al.length e3, .slice none 0 0] 44 (0, 0))) := heap_set_same _ (heap_set_same _ (heap_set_same _ (heap_set_same _ (heap_set_same _ (heap_set_same _ (HO2'.out))))))
  have HB2 : Hid (Below w.heap.size w ((((((w2.setCell ⟨w.heap.size + 2, 2, none⟩ (.int .i64 y.k)).setCell ⟨w.heap.size + 2, 3, none⟩ (.string y.s)).setCell ⟨w.heap.size + 2, 4, none⟩ (.int .i64 y.n)).setCell ⟨w.heap.size + 2, 5, none⟩ (.slice r1 y.l.length e1)).setCell ⟨w.heap.size + 2, 6, none⟩ (.slice r2 y.ds.length e2)).setCell ⟨w.heap.size + 2, 7, none⟩ (.slice r3 y.al.length e3))) := ((((((HB2'.out.setCell (Nat.le_add_right _ _) _).setCell (Nat.le_add_right _ _) _).setCell (Nat.le_add_right _ _) _).setCell (Nat.le_add_right _ _) _).setCell (Nat.le_add_right _ _) _).setCell (Nat.le_add_right _ _) _)
  have hz2 : w.heap.size + 3 ≤ ((((((w2.setCell ⟨w.heap.size + 2, 2, none⟩ (.int .i64 y.k)).setCell ⟨w.heap.size + 2, 3, none⟩ (.string y.s)).setCell ⟨w.heap.size + 2, 4, none⟩ (.int .i64 y.n)).setCell ⟨w.heap.size + 2, 5, none⟩ (.slice r1 y.l.length e1)).setCell ⟨w.heap.size + 2, 6, none⟩ (.slice r2 y.ds.length e2)).setCell ⟨w.heap.size + 2, 7, none⟩ (.slice r3 y.al.length e3)).heap.size := by simpa using hz2'
  have HPL2 : Hid (Plain w ((((((w2.setCell ⟨w.heap.size + 2, 2, none⟩ (.int .i64 y.k)).setCell ⟨w.heap.size + 2, 3, none⟩ (.string y.s)).setCell ⟨w.heap.size + 2, 4, none⟩ (.int .i64 y.n)).setCell ⟨w.heap.size + 2, 5, none⟩ (.slice r1 y.l.length e1)).setCell ⟨w.heap.size + 2, 6, none⟩ (.slice r2 y.ds.length e2)).setCell ⟨w.heap.size + 2, 7, none⟩ (.slice r3 y.al.length e3))) := ((((((HPL2'.out.set _ _ _).set _ _ _).set _ _ _).set _ _ _).set _ _ _).set _ _ _)
  have HS2 : Hid (Stays (FromK (w.heap.size + 3)) w2 ((((((w2.setCell ⟨w.heap.size + 2, 2, none⟩ (.int .i64 y.k)).setCell ⟨w.heap.size + 2, 3, none⟩ (.string y.s)).setCell ⟨w.heap.size + 2, 4, none⟩ (.int .i64 y.n)).setCell ⟨w.heap.size + 2, 5, none⟩ (.slice r1 y.l.length e1)).setCell ⟨w.heap.size + 2, 6, none⟩ (.slice r2 y.ds.length e2)).setCell ⟨w.heap.size + 2, 7, none⟩ (.slice r3 y.al.length e3))) := Stays.trans (Stays.trans (Stays.trans (Stays.trans (Stays.trans (stays_from _ (w.heap.size + 2) 2 (.int .i64 y.k) (by omega) rfl) (stays_from _ (w.heap.size + 2) 3 (.string y.s) (by omega) rfl)) (stays_from _ (w.heap.size + 2) 4 (.int .i64 y.n) (by omega) rfl)) (stays_from _ (w.heap.size + 2) 5 (.slice r1 y.l.length e1) (by omega) rfl)) (stays_from _ (w.heap.size + 2) 6 (.slice r2 y.ds.length e2) (by omega) rfl)) (stays_from _ (w.heap.size + 2) 7 (.slice r3 y.al.length e3) (by omega) rfl)
  go_wp2_with fail
  refine (toDecS_of I2.out x.ds o2 c2 _ (by have := HWT.out; omega) (Q3.out.later HB2.out (reads_later HB2.out h).2.1)).mono ?_
  rintro e w3 ⟨p3, d3, rfl, hcap3, hrw, hb, hpl⟩
  have HPL3' := hide (HPL2.out.on hpl hb)
  clear hpl
  have HBK3 := hide hb
  have HB3' := hide (HB2.out.trans (hb.mono HB2.out.size))
  have HX3' := hide ((hb.block (w.heap.size) (by omega)).trans HX2.out)
  have HR3' := hide ((hb.block (w.heap.size + 1) (by omega)).trans HR2.out)
  have HO3' := hide ((hb.block (w.heap.size + 2) (by omega)).trans HO2.out)
  have hz3' : w.heap.size + 3 ≤ w3.heap.size := Nat.le_trans hz2 hb.size
  have HRW3 := hide hrw
  clear hrw hb
  have s8_3 := cell_of HO3'.out 8
  have f8_3 := frozen_of HO3'.out 8
  have o0_3 := cell_of HO3'.out 0
  have r0_3 := cell_of HR3'.out 0
  have e0_3 := frozen_of HR3'.out 0
  have o1_3 := cell_of HO3'.out 1
  have r1_3 := cell_of HR3'.out 1
  have e1_3 := frozen_of HR3'.out 1
  have o2_3 := cell_of HO3'.out 2
  have r2_3 := cell_of HR3'.out 2
  have e2_3 := frozen_of HR3'.out 2
  have o3_3 := cell_of HO3'.out 3
  have r3_3 := cell_of HR3'.out 3
  have e3_3 := frozen_of HR3'.out 3
  have o4_3 := cell_of HO3'.out 4
  have r4_3 := cell_of HR3'.out 4
  have e4_3 := frozen_of HR3'.out 4
  have o5_3 := cell_of HO3'.out 5
  have r5_3 := cell_of HR3'.out 5
  have e5_3 := frozen_of HR3'.out 5
  have o6_3 := cell_of HO3'.out 6
  have r6_3 := cell_of HR3'.out 6
  have e6_3 := frozen_of HR3'.out 6
  have o7_3 := cell_of HO3'.out 7
  have r7_3 := cell_of HR3'.out 7
  have e7_3 := frozen_of HR3'.out 7
  have o8_3 := cell_of HO3'.out 8
  have r8_3 := cell_of HR3'.out 8
  have e8_3 := frozen_of HR3'.out 8
  simp only [List.getElem?_toArray, List.getElem?_cons_succ, List.getElem?_cons_zero] at s8_3 o0_3 o1_3 o2_3 o3_3 o4_3 o5_3 o6_3 o7_3 o8_3 r0_3 r1_3 r2_3 r3_3 r4_3 r5_3 r6_3 r7_3 r8_3
  have HX3 : Hid ((w3.setCell ⟨w.heap.size + 2, 8, none⟩ (.slice p3 x.ds.length d3)).heap[w.heap.size]? = some (.cells #[.string x.s, .slice o1 x.ss.length c1, a0, a1, a2, a3, a4, a5, .slice o2 x.ds.length c2] 40 (0, 0))) := (heap_set_other _ (by omega)).trans (HX3'.out)
  have HR3 : Hid ((w3.setCell ⟨w.heap.size + 2, 8, none⟩ (.slice p3 x.ds.length d3)).heap[w.heap.size + 1]? = some (.cells #[.string ⟨#[]⟩, .slice none 0 0, .int .i64 0, .string ⟨#[]⟩, .int .i64 0, .slice none 0 0, .slice none 0 0, .slice none 0 0, .slice none 0 0] 44 (0, 0))) := (heap_set_other _ (by omega)).trans (HR3'.out)
  have HO3 : Hid ((w3.setCell ⟨w.heap.size + 2, 8, none⟩ (.slice p3 x.ds.length d3)).heap[w.heap.size + 2]? = some (.cells #[.string x.s, .slice p1 x.ss.length d1, .int .i64 y.k, .string y.s, .int .i64 y.n, .slice r1 y.l.length e1, .slice r2 y.ds.length e2, .slice r3 y.al.length e3, .slice p3 x.ds.length d3] 44 (0, 0))) := heap_set_same _ (HO3'.out)
  have HB3 : Hid (Below w.heap.size w (w3.setCell ⟨w.heap.size + 2, 8, none⟩ (.slice p3 x.ds.length d3))) := (HB3'.out.setCell (Nat.le_add_right _ _) _)
  have hz3 : w.heap.size + 3 ≤ (w3.setCell ⟨w.heap.size + 2, 8, none⟩ (.slice p3 x.ds.length d3)).heap.size := by simpa using hz3'
  have HPL3 : Hid (Plain w (w3.setCell ⟨w.heap.size + 2, 8, none⟩ (.slice p3 x.ds.length d3))) := (HPL3'.out.set _ _ _)
  have HS3 : Hid (Stays (FromK (w.heap.size + 3)) w3 (w3.setCell ⟨w.heap.size + 2, 8, none⟩ (.slice p3 x.ds.length d3))) := (stays_from _ (w.heap.size + 2) 8 (.slice p3 x.ds.length d3) (by omega) rfl)
  have HRF0 : Hid (((w3.setCell ⟨w.heap.size + 2, 8, none⟩ (.slice p3 x.ds.length d3)).setCell ⟨w.heap.size + 1, 0, none⟩ (.string x.s)).heap[w.heap.size + 1]? = some (.cells #[.string x.s, .slice none 0 0, .int .i64 0, .string ⟨#[]⟩, .int .i64 0, .slice none 0 0, .slice none 0 0, .slice none 0 0, .slice none 0 0] 44 (0, 0))) := heap_set_same _ HR3.out
  have HRF1 : Hid ((((w3.setCell ⟨w.heap.size + 2, 8, none⟩ (.slice p3 x.ds.length d3)).setCell ⟨w.heap.size + 1, 0, none⟩ (.string x.s)).setCell ⟨w.heap.size + 1, 1, none⟩ (.slice p1 x.ss.length d1)).heap[w.heap.size + 1]? = some (.cells #[.string x.s, .slice p1 x.ss.length d1, .int .i64 0, .string ⟨#[]⟩, .int .i64 0, .slice none 0 0, .slice none 0 0, .slice none 0 0, .slice none 0 0] 44 (0, 0))) := heap_set_same _ HRF0.out
  have HRF2 : Hid (((((w3.setCell ⟨w.heap.size + 2, 8, none⟩ (.slice p3 x.ds.length d3)).setCell ⟨w.heap.size + 1, 0, none⟩ (.string x.s)).setCell ⟨w.heap.size + 1, 1, none⟩ (.slice p1 x.ss.length d1)).setCell ⟨w.heap.size + 1, 2, none⟩ (.int .i64 y.k)).heap[w.heap.size + 1]? = some (.cells #[.string x.s, .slice p1 x.ss.length d1, .int .i64 y.k, .string ⟨#[]⟩, .int .i64 0, .slice none 0 0, .slice none 0 0, .slice none 0 0, .slice none 0 0] 44 (0, 0))) := heap_set_same _ HRF1.out
  have HRF3 : Hid ((((((w3.setCell ⟨w.heap.size + 2, 8, none⟩ (.slice p3 x.ds.length d3)).setCell ⟨w.heap.size + 1, 0, none⟩ (.string x.s)).setCell ⟨w.heap.size + 1, 1, none⟩ (.slice p1 x.ss.length d1)).setCell ⟨w.heap.size + 1, 2, none⟩ (.int .i64 y.k)).setCell ⟨w.heap.size + 1, 3, none⟩ (.string y.s)).heap[w.heap.size + 1]? = some (.cells #[.string x.s, .slice p1 x.ss.length d1, .int .i64 y.k, .string y.s, .int .i64 0, .slice none 0 0, .slice none 0 0, .slice none 0 0, .slice none 0 0] 44 (0, 0))) := heap_set_same _ HRF2.out
  have HRF4 : Hid (((((((w3.setCell ⟨w.heap.size + 2, 8, none⟩ (.slice p3 x.ds.length d3)).setCell ⟨w.heap.size + 1, 0, none⟩ (.string x.s)).setCell ⟨w.heap.size + 1, 1, none⟩ (.slice p1 x.ss.length d1)).setCell ⟨w.heap.size + 1, 2, none⟩ (.int .i64 y.k)).setCell ⟨w.heap.size + 1, 3, none⟩ (.string y.s)).setCell ⟨w.heap.size + 1, 4, none⟩ (.int .i64 y.n)).heap[w.heap.size + 1]? = some (.cells #[.string x.s, .slice p1 x.ss.length d1, .int .i64 y.k, .string y.s, .int .i64 y.n, .slice none 0 0, .slice none 0 0, .slice none 0 0, .slice none 0 0] 44 (0, 0))) := heap_set_same _ HRF3.out
  have HRF5 : Hid ((((((((w3.setCell ⟨w.heap.size + 2, 8, none⟩ (.slice p3 x.ds.length d3)).setCell ⟨w.heap.size + 1, 0, none⟩ (.string x.s)).setCell ⟨w.heap.size + 1, 1, none⟩ (.slice p1 x.ss.length d1)).setCell ⟨w.heap.size + 1, 2, none⟩ (.int .i64 y.k)).setCell ⟨w.heap.size + 1, 3, none⟩ (.string y.s)).setCell ⟨w.heap.size + 1, 4, none⟩ (.int .i64 y.n)).setCell ⟨w.heap.size + 1, 5, none⟩ (.slice r1 y.l.length e1)).heap[w.heap.size + 1]? = some (.cells #[.string x.s, .slice p1 x.ss.length d1, .int .i64 y.k, .string y.s, .int .i64 y.n, .slice r1 y.l.length e1, .slice none 0 0, .slice none 0 0, .slice none 0 0] 44 (0, 0))) := heap_set_same _ HRF4.out
  have HRF6 : Hid (((((((((w3.setCell ⟨w.heap.size + 2, 8, none⟩ (.slice p3 x.ds.length d3)).setCell ⟨w.heap.size + 1, 0, none⟩ (.string x.s)).setCell ⟨w.heap.size + 1, 1, none⟩ (.slice p1 x.ss.length d1)).setCell ⟨w.heap.size + 1, 2, none⟩ (.int .i64 y.k)).setCell ⟨w.heap.size + 1, 3, none⟩ (.string y.s)).setCell ⟨w.heap.size + 1, 4, none⟩ (.int .i64 y.n)).setCell ⟨w.heap.size + 1, 5, none⟩ (.slice r1 y.l.length e1)).setCell ⟨w.heap.size + 1, 6, none⟩ (.slice r2 y.ds.length e2)).heap[w.heap.size + 1]? = some (.cells #[.string x.s, .slice p1 x.ss.length d1, .int .i64 y.k, .string y.s, .int .i64 y.n, .slice r1 y.l.length e1, .slice r2 y.ds.length e2, .slice none 0 0, .slice none 0 0] 44 (0, 0))) := heap_set_same _ HRF5.out
  have HRF7 : Hid ((((((((((w3.setCell ⟨w.heap.size + 2, 8, none⟩ (.slice p3 x.ds.length d3)).setCell ⟨w.heap.size + 1, 0, none⟩ (.string x.s)).setCell ⟨w.heap.size + 1, 1, none⟩ (.slice p1 x.ss.length d1)).setCell ⟨w.heap.size + 1, 2, none⟩ (.int .i64 y.k)).setCell ⟨w.heap.size + 1, 3, none⟩ (.string y.s)).setCell ⟨w.heap.size + 1, 4, none⟩ (.int .i64 y.n)).setCell ⟨w.heap.size + 1, 5, none⟩ (.slice r1 y.l.length e1)).setCell ⟨w.heap.size + 1, 6, none⟩ (.slice r2 y.ds.length e2)).setCell ⟨w.heap.size + 1, 7, none⟩ (.slice r3 y.al.length e3)).heap[w.heap.size + 1]? = some (.cells #[.string x.s, .slice p1 x.ss.length d1, .int .i64 y.k, .string y.s, .int .i64 y.n, .slice r1 y.l.length e1, .slice r2 y.ds.length e2, .slice r3 y.al.length e3, .slice none 0 0] 44 (0, 0))) := heap_set_same _ HRF6.out
  have HRF8 : Hid (((((((((((w3.setCell ⟨w.heap.size + 2, 8, none⟩ (.slice p3 x.ds.length d3)).setCell ⟨w.heap.size + 1, 0, none⟩ (.string x.s)).setCell ⟨w.heap.size + 1, 1, none⟩ (.slice p1 x.ss.length d1)).setCell ⟨w.heap.size + 1, 2, none⟩ (.int .i64 y.k)).setCell ⟨w.heap.size + 1, 3, none⟩ (.string y.s)).setCell ⟨w.heap.size + 1, 4, none⟩ (.int .i64 y.n)).setCell ⟨w.heap.size + 1, 5, none⟩ (.slice r1 y.l.length e1)).setCell ⟨w.heap.size + 1, 6, none⟩ (.slice r2 y.ds.length e2)).setCell ⟨w.heap.size + 1, 7, none⟩ (.slice r3 y.al.length e3)).setCell ⟨w.heap.size + 1, 8, none⟩ (.slice p3 x.ds.length d3)).heap[w.heap.size + 1]? = some (.cells #[.string x.s, .slice p1 x.ss.length d1, .int .i64 y.k, .string y.s, .int .i64 y.n, .slice r1 y.l.length e1, .slice r2 y.ds.length e2, .slice r3 y.al.length e3, .slice p3 x.ds.length d3] 44 (0, 0))) := heap_set_same _ HRF7.out
  go_wp2
  have stw3 := Stays.trans (Stays.trans (Stays.trans (Stays.trans (Stays.trans (Stays.trans (Stays.trans (Stays.trans (Stays.trans (HS3.out) (stays_from (w.heap.size + 3) (w.heap.size + 1) 0 (.string x.s) (by omega) rfl)) (stays_from (w.heap.size + 3) (w.heap.size + 1) 1 (.slice p1 x.ss.length d1) (by omega) rfl)) (stays_from (w.heap.size + 3) (w.heap.size + 1) 2 (.int .i64 y.k) (by omega) rfl)) (stays_from (w.heap.size + 3) (w.heap.size + 1) 3 (.string y.s) (by omega) rfl)) (stays_from (w.heap.size + 3) (w.heap.size + 1) 4 (.int .i64 y.n) (by omega) rfl)) (stays_from (w.heap.size + 3) (w.heap.size + 1) 5 (.slice r1 y.l.length e1) (by omega) rfl)) (stays_from (w.heap.size + 3) (w.heap.size + 1) 6 (.slice r2 y.ds.length e2) (by omega) rfl)) (stays_from (w.heap.size + 3) (w.heap.size + 1) 7 (.slice r3 y.al.length e3) (by omega) rfl)) (stays_from (w.heap.size + 3) (w.heap.size + 1) 8 (.slice p3 x.ds.length d3) (by omega) rfl)
  have stw2 := (HS2.out.trans (Stays.of HBK3.out)).trans stw3
  have stw1 := (HS1.out.trans (Stays.of HBK2.out)).trans stw2
  refine bodyPost_ret (v := .agg #[.string x.s, .slice p1 x.ss.length d1, .int .i64 y.k, .string y.s, .int .i64 y.n, .slice r1 y.l.length e1, .slice r2 y.ds.length e2, .slice r3 y.al.length e3, .slice p3 x.ds.length d3]) ?_ rfl ?_
  · exact results_cell_row rfl _ _ (w.heap.size + 1) 44 _ (0, 0) _ rfl (HRF8.out) Try.underlying44 rfl (by kernel_rfl)
  · refine ⟨[.string x.s, .slice p1 x.ss.length d1, .int .i64 y.k, .string y.s, .int .i64 y.n, .slice r1 y.l.length e1, .slice r2 y.ds.length e2, .slice r3 y.al.length e3, .slice p3 x.ds.length d3], rfl, rfl, ?_, ?_, (((((((((HPL3.out.set _ _ _).set _ _ _).set _ _ _).set _ _ _).set _ _ _).set _ _ _).set _ _ _).set _ _ _).set _ _ _)⟩
    · skip
      have rw1 := HRW1.out.frame (stw1.less (FromK.up hz0)) (FromK.up (m := w.heap.size) (Nat.le_trans (Nat.le_add_right _ 3) hz0)) (fun _ _ h => h)
      have rw2 := (reads_frame (stw2.less (FromK.up hz1)) (FromK.up (m := w.heap.size) (Nat.le_trans (Nat.le_add_right _ 3) hz1)) h).1 _ _ HRW2.out
      have rw3 := HRW3.out.frame (stw3.less (FromK.up hz2)) (FromK.up (m := w.heap.size) (Nat.le_trans (Nat.le_add_right _ 3) hz2)) (reads_frame (stw3.less (FromK.up hz2)) (FromK.up (m := w.heap.size) (Nat.le_trans (Nat.le_add_right _ 3) hz2)) h).2.1
      exact ⟨HZ.out.1, HZ.out.2.1, HZ.out.2.2, y, p1, d1, [.int .i64 y.k, .string y.s, .int .i64 y.n, .slice r1 y.l.length e1, .slice r2 y.ds.length e2, .slice r3 y.al.length e3], p3, d3, HY.out, rfl, HL4.out.1, ⟨HL4.out.2.1.1, hcap1⟩, ⟨HL4.out.2.2.1, hcap3⟩, rw1, rfl, rw2, rw3⟩
    · exact (((((((((HB3.out.setCell (Nat.le_add_right _ _) _).setCell (Nat.le_add_right _ _) _).setCell (Nat.le_add_right _ _) _).setCell (Nat.le_add_right _ _) _).setCell (Nat.le_add_right _ _) _).setCell (Nat.le_add_right _ _) _).setCell (Nat.le_add_right _ _) _).setCell (Nat.le_add_right _ _) _).setCell (Nat.le_add_right _ _) _)

set_option maxHeartbeats 500000 in
set_option maxRecDepth 100000 in
theorem toAlt_step {h : Nat} (i1 : ToEx h) : ToAl (h + 1) := by
  intro x cs w hrd hwt
  obtain ⟨z1, z2, z3, z4, y, o1, c1, ce, hy, rfl, hs, hl, q1, hce, q2⟩ := hrd
  obtain ⟨a0, a1, a2, a3, a4, a5, rfl⟩ := six hce
  simp only [List.cons_append, List.nil_append]
  have HWT : Hid (x.s.size + sw x.ss + (wts h).ex y ≤ 1048576) := by
    have h1 : x.s.size + sw x.ss + (x.l.map (wts h).ex).sum ≤ 1048576 := hwt
    rw [hy] at h1
    simp only [List.map_cons, List.map_nil, List.sum_cons, List.sum_nil] at h1
    exact (by omega : x.s.size + sw x.ss + (wts h).ex y ≤ 1048576)
  have I1 := hide i1
  have Q1 := hide q1
  have Q2 := hide q2
  have HY := hide hy
  have HL4 := hide (And.intro hs (And.intro hl trivial))
  have HZ := hide (And.intro z1 (And.intro z2 (And.intro z3 z4)))
  clear i1 q1 q2 hy hwt hs hl hce z1 z2 z3 z4
  have HX0 : Hid ((((w.alloc (.cells #[.string x.s, .slice o1 x.ss.length c1, a0, a1, a2, a3, a4, a5] 102)).alloc (.cells #[.string ⟨#[]⟩, .slice none 0 0, .int .i64 0, .string ⟨#[]⟩, .int .i64 0, .slice none 0 0, .slice none 0 0, .slice none 0 0] 54)).alloc (.cells #[.string x.s, .slice none 0 0, .int .i64 0, .string ⟨#[]⟩, .int .i64 0, .slice none 0 0, .slice none 0 0, .slice none 0 0] 54)).heap[w.heap.size]? = some (.cells #[.string x.s, .slice o1 x.ss.length c1, a0, a1, a2, a3, a4, a5] 102 (0, 0))) := (heap_alloc3_new w _ _ _).1
  have HR0 : Hid ((((w.alloc (.cells #[.string x.s, .slice o1 x.ss.length c1, a0, a1, a2, a3, a4, a5] 102)).alloc (.cells #[.string ⟨#[]⟩, .slice none 0 0, .int .i64 0, .string ⟨#[]⟩, .int .i64 0, .slice none 0 0, .slice none 0 0, .slice none 0 0] 54)).alloc (.cells #[.string x.s, .slice none 0 0, .int .i64 0, .string ⟨#[]⟩, .int .i64 0, .slice none 0 0, .slice none 0 0, .slice none 0 0] 54)).heap[w.heap.size + 1]? = some (.cells #[.string ⟨#[]⟩, .slice none 0 0, .int .i64 0, .string ⟨#[]⟩, .int .i64 0, .slice none 0 0, .slice none 0 0, .slice none 0 0] 54 (0, 0))) := (heap_alloc3_new w _ _ _).2.1
  have HO0 : Hid ((((w.alloc (.cells #[.string x.s, .slice o1 x.ss.length c1, a0, a1, a2, a3, a4, a5] 102)).alloc (.cells #[.string ⟨#[]⟩, .slice none 0 0, .int .i64 0, .string ⟨#[]⟩, .int .i64 0, .slice none 0 0, .slice none 0 0, .slice none 0 0] 54)).alloc (.cells #[.string x.s, .slice none 0 0, .int .i64 0, .string ⟨#[]⟩, .int .i64 0, .slice none 0 0, .slice none 0 0, .slice none 0 0] 54)).heap[w.heap.size + 2]? = some (.cells #[.string x.s, .slice none 0 0, .int .i64 0, .string ⟨#[]⟩, .int .i64 0, .slice none 0 0, .slice none 0 0, .slice none 0 0] 54 (0, 0))) := (heap_alloc3_new w _ _ _).2.2
  have HB0 : Hid (Below w.heap.size w (((w.alloc (.cells #[.string x.s, .slice o1 x.ss.length c1, a0, a1, a2, a3, a4, a5] 102)).alloc (.cells #[.string ⟨#[]⟩, .slice none 0 0, .int .i64 0, .string ⟨#[]⟩, .int .i64 0, .slice none 0 0, .slice none 0 0, .slice none 0 0] 54)).alloc (.cells #[.string x.s, .slice none 0 0, .int .i64 0, .string ⟨#[]⟩, .int .i64 0, .slice none 0 0, .slice none 0 0, .slice none 0 0] 54))) := (((Below.refl _ w).alloc (Nat.le_refl _) _).alloc (by simp) _).alloc (by simp; omega) _
  have hz0 : w.heap.size + 3 ≤ (((w.alloc (.cells #[.string x.s, .slice o1 x.ss.length c1, a0, a1, a2, a3, a4, a5] 102)).alloc (.cells #[.string ⟨#[]⟩, .slice none 0 0, .int .i64 0, .string ⟨#[]⟩, .int .i64 0, .slice none 0 0, .slice none 0 0, .slice none 0 0] 54)).alloc (.cells #[.string x.s, .slice none 0 0, .int .i64 0, .string ⟨#[]⟩, .int .i64 0, .slice none 0 0, .slice none 0 0, .slice none 0 0] 54)).heap.size := by simp
  have HPL0 : Hid (Plain w (((w.alloc (.cells #[.string x.s, .slice o1 x.ss.length c1, a0, a1, a2, a3, a4, a5] 102)).alloc (.cells #[.string ⟨#[]⟩, .slice none 0 0, .int .i64 0, .string ⟨#[]⟩, .int .i64 0, .slice none 0 0, .slice none 0 0, .slice none 0 0] 54)).alloc (.cells #[.string x.s, .slice none 0 0, .int .i64 0, .string ⟨#[]⟩, .int .i64 0, .slice none 0 0, .slice none 0 0, .slice none 0 0] 54))) := (((Plain.refl w).alloc _ _).alloc _ _).alloc _ _
  go_enter Try.func46, Try.ntmps46
  go_wp2_with fail
  refine (toStringS_any x.ss o1 c1 _ (by have := HWT.out; unfold sw at this; omega) (Q1.out.later HB0.out fun _ _ h => h)).mono ?_
  rintro e w1 ⟨p1, d1, rfl, hcap1, hrw, hb, hpl⟩
  have HPL1' := hide (HPL0.out.on hpl hb)
  clear hpl
  have HBK1 := hide hb
  have HB1' := hide (HB0.out.trans (hb.mono HB0.out.size))
  have HX1' := hide ((hb.block (w.heap.size) (by omega)).trans HX0.out)
  have HR1' := hide ((hb.block (w.heap.size + 1) (by omega)).trans HR0.out)
  have HO1' := hide ((hb.block (w.heap.size + 2) (by omega)).trans HO0.out)
  have hz1' : w.heap.size + 3 ≤ w1.heap.size := Nat.le_trans hz0 hb.size
  have HRW1 := hide hrw
  clear hrw hb
  have s1_1 := cell_of HO1'.out 1
  have f1_1 := frozen_of HO1'.out 1
  have b2_1 := cell_of HX1'.out 2
  have b3_1 := cell_of HX1'.out 3
  have b4_1 := cell_of HX1'.out 4
  have b5_1 := cell_of HX1'.out 5
  have b6_1 := cell_of HX1'.out 6
  have b7_1 := cell_of HX1'.out 7
  simp only [List.getElem?_toArray, List.getElem?_cons_succ, List.getElem?_cons_zero] at s1_1 b2_1 b3_1 b4_1 b5_1 b6_1 b7_1
  have HX1 : Hid ((w1.setCell ⟨w.heap.size + 2, 1, none⟩ (.slice p1 x.ss.length d1)).heap[w.heap.size]? = some (.cells #[.string x.s, .slice o1 x.ss.length c1, a0, a1, a2, a3, a4, a5] 102 (0, 0))) := (heap_set_other _ (by omega)).trans (HX1'.out)
  have HR1 : Hid ((w1.setCell ⟨w.heap.size + 2, 1, none⟩ (.slice p1 x.ss.length d1)).heap[w.heap.size + 1]? = some (.cells #[.string ⟨#[]⟩, .slice none 0 0, .int .i64 0, .string ⟨#[]⟩, .int .i64 0, .slice none 0 0, .slice none 0 0, .slice none 0 0] 54 (0, 0))) := (heap_set_other _ (by omega)).trans (HR1'.out)
  have HO1 : Hid ((w1.setCell ⟨w.heap.size + 2, 1, none⟩ (.slice p1 x.ss.length d1)).heap[w.heap.size + 2]? = some (.cells #[.string x.s, .slice p1 x.ss.length d1, .int .i64 0, .string ⟨#[]⟩, .int .i64 0, .slice none 0 0, .slice none 0 0, .slice none 0 0] 54 (0, 0))) := heap_set_same _ (HO1'.out)
  have HB1 : Hid (Below w.heap.size w (w1.setCell ⟨w.heap.size + 2, 1, none⟩ (.slice p1 x.ss.length d1))) := (HB1'.out.setCell (Nat.le_add_right _ _) _)
  have hz1 : w.heap.size + 3 ≤ (w1.setCell ⟨w.heap.size + 2, 1, none⟩ (.slice p1 x.ss.length d1)).heap.size := by simpa using hz1'
  have HPL1 : Hid (Plain w (w1.setCell ⟨w.heap.size + 2, 1, none⟩ (.slice p1 x.ss.length d1))) := (HPL1'.out.set _ _ _)
  have HS1 : Hid (Stays (FromK (w.heap.size + 3)) w1 (w1.setCell ⟨w.heap.size + 2, 1, none⟩ (.slice p1 x.ss.length d1))) := (stays_from _ (w.heap.size + 2) 1 (.slice p1 x.ss.length d1) (by omega) rfl)
  go_wp2_with fail
  refine (I1.out y _ _ ((reads_later HB1.out h).1 _ _ Q2.out) (by have := HWT.out; omega)).mono ?_
  rintro e w2 ⟨ce, rfl, hlen, hrw, hb, hpl⟩
  obtain ⟨r1, e1, r2, e2, r3, e3, rfl⟩ := ex_form hrw
  clear hlen
  have HPL2' := hide (HPL1.out.on hpl hb)
  clear hpl
  have HBK2 := hide hb
  have HB2' := hide (HB1.out.trans (hb.mono HB1.out.size))
  have HX2' := hide ((hb.block (w.heap.size) (by omega)).trans HX1.out)
  have HR2' := hide ((hb.block (w.heap.size + 1) (by omega)).trans HR1.out)
  have HO2' := hide ((hb.block (w.heap.size + 2) (by omega)).trans HO1.out)
  have hz2' : w.heap.size + 3 ≤ w2.heap.size := Nat.le_trans hz1 hb.size
  have HRW2 := hide hrw
  clear hrw hb
  have s2_2 := cell_of HO2'.out 2
  have f2_2 := frozen_of HO2'.out 2
  have s3_2 := cell_of HO2'.out 3
  have f3_2 := frozen_of HO2'.out 3
  have s4_2 := cell_of HO2'.out 4
  have f4_2 := frozen_of HO2'.out 4
  have s5_2 := cell_of HO2'.out 5
  have f5_2 := frozen_of HO2'.out 5
  have s6_2 := cell_of HO2'.out 6
  have f6_2 := frozen_of HO2'.out 6
  have s7_2 := cell_of HO2'.out 7
  have f7_2 := frozen_of HO2'.out 7
  have o0_2 := cell_of HO2'.out 0
  have r0_2 := cell_of HR2'.out 0
  have e0_2 := frozen_of HR2'.out 0
  have o1_2 := cell_of HO2'.out 1
  have r1_2 := cell_of HR2'.out 1
  have e1_2 := frozen_of HR2'.out 1
  have o2_2 := cell_of HO2'.out 2
  have r2_2 := cell_of HR2'.out 2
  have e2_2 := frozen_of HR2'.out 2
  have o3_2 := cell_of HO2'.out 3
  have r3_2 := cell_of HR2'.out 3
  have e3_2 := frozen_of HR2'.out 3
  have o4_2 := cell_of HO2'.out 4
  have r4_2 := cell_of HR2'.out 4
  have e4_2 := frozen_of HR2'.out 4
  have o5_2 := cell_of HO2'.out 5
  have r5_2 := cell_of HR2'.out 5
  have e5_2 := frozen_of HR2'.out 5
  have o6_2 := cell_of HO2'.out 6
  have r6_2 := cell_of HR2'.out 6
  have e6_2 := frozen_of HR2'.out 6
  have o7_2 := cell_of HO2'.out 7
  have r7_2 := cell_of HR2'.out 7
  have e7_2 := frozen_of HR2'.out 7
  simp only [List.getElem?_toArray, List.getElem?_cons_succ, List.getElem?_cons_zero] at s2_2 s3_2 s4_2 s5_2 s6_2 s7_2 o0_2 o1_2 o2_2 o3_2 o4_2 o5_2 o6_2 o7_2 r0_2 r1_2 r2_2 r3_2 r4_2 r5_2 r6_2 r7_2
  have HX2 : Hid (((((((w2.setCell ⟨w.heap.size + 2, 2, none⟩ (.int .i64 y.k)).setCell ⟨w.heap.size + 2, 3, none⟩ (.string y.s)).setCell ⟨w.heap.size + 2, 4, none⟩ (.int .i64 y.n)).setCell ⟨w.heap.size + 2, 5, none⟩ (.slice r1 y.l.length e1)).setCell ⟨w.heap.size + 2, 6, none⟩ (.slice r2 y.ds.length e2)).setCell ⟨w.heap.size + 2, 7, none⟩ (.slice r3 y.al.length e3)).heap[w.heap.size]? = some (.cells #[.string x.s, .slice o1 x.ss.length c1, a0, a1, a2, a3, a4, a5] 102 (0, 0))) := (heap_set_other _ (by omega)).trans ((heap_set_other _ (by omega)).trans ((heap_set_other _ (by omega)).trans ((heap_set_other _ (by omega)).trans ((heap_set_other _ (by omega)).trans ((heap_set_other _ (by omega)).trans (HX2'.out))))))
  have HR2 : Hid (((((((w2.setCell ⟨w.heap.size + 2, 2, none⟩ (.int .i64 y.k)).setCell ⟨w.heap.size + 2, 3, none⟩ (.string y.s)).setCell ⟨w.heap.size + 2, 4, none⟩ (.int .i64 y.n)).setCell ⟨w.heap.size + 2, 5, none⟩ (.slice r1 y.l.length e1)).setCell ⟨w.heap.size + 2, 6, none⟩ (.slice r2 y.ds.length e2)).setCell ⟨w.heap.size + 2, 7, none⟩ (.slice r3 y.al.length e3)).heap[w.heap.size + 1]? = some (.cells #[.string ⟨#[]⟩, .slice none 0 0, .int .i64 0, .string ⟨#[]⟩, .int .i64 0, .slice none 0 0, .slice none 0 0, .slice none 0 0] 54 (0, 0))) := (heap_set_other _ (by omega)).trans ((heap_set_other _ (by omega)).trans ((heap_set_other _ (by omega)).trans ((heap_set_other _ (by omega)).trans ((heap_set_other _ (by omega)).trans ((heap_set_other _ (by omega)).trans (HR2'.out))))))
  have HO2 : Hid (((((((w2.setCell ⟨w.heap.size + 2, 2, none⟩ (.int .i64 y.k)).setCell ⟨w.heap.size + 2, 3, none⟩ (.string y.s)).setCell ⟨w.heap.size + 2, 4, none⟩ (.int .i64 y.n)).setCell ⟨w.heap.size + 2, 5, none⟩ (.slice r1 y.l.length e1)).setCell ⟨w.heap.size + 2, 6, none⟩ (.slice r2 y.ds.length e2)).setCell ⟨w.heap.size + 2, 7, none⟩ (.slice r3 y.al.length e3)).heap[w.heap.size + 2]? = some (.cells #[.string x.s, .slice p1 x.ss.length d1, .int .i64 y.k, .string y.s, .int .i64 y.n, .slice r1 y.l.length e1, .slice r2 y.ds.length e2, .slice r3 y.al.length e3] 54 (0, 0))) := heap_set_same _ (heap_set_same _ (heap_set_same _ (heap_set_same _ (heap_set_same _ (heap_set_same _ (HO2'.out))))))
  have HB2 : Hid (Below w.heap.size w ((((((w2.setCell ⟨w.heap.size + 2, 2, none⟩ (.int .i64 y.k)).setCell ⟨w.heap.size + 2, 3, none⟩ (.string y.s)).setCell ⟨w.heap.size + 2, 4, none⟩ (.int .i64 y.n)).setCell ⟨w.heap.size + 2, 5, none⟩ (.slice r1 y.l.length e1)).setCell ⟨w.heap.size + 2, 6, none⟩ (.slice r2 y.ds.length e2)).setCell ⟨w.heap.size + 2, 7, none⟩ (.slice r3 y.al.length e3))) := ((((((HB2'.out.setCell (Nat.le_add_right _ _) _).setCell (Nat.le_add_right _ _) _).setCell (Nat.le_add_right _ _) _).setCell (Nat.le_add_right _ _) _).setCell (Nat.le_add_right _ _) _).setCell (Nat.le_add_right _ _) _)
  have hz2 : w.heap.size + 3 ≤ ((((((w2.setCell ⟨w.heap.size + 2, 2, none⟩ (.int .i64 y.k)).setCell ⟨w.heap.size + 2, 3, none⟩ (.string y.s)).setCell ⟨w.heap.size + 2, 4, none⟩ (.int .i64 y.n)).setCell ⟨w.heap.size + 2, 5, none⟩ (.slice r1 y.l.length e1)).setCell ⟨w.heap.size + 2, 6, none⟩ (.slice r2 y.ds.length e2)).setCell ⟨w.heap.size + 2, 7, none⟩ (.slice r3 y.al.length e3)).heap.size := by simpa using hz2'
  have HPL2 : Hid (Plain w ((((((w2.setCell ⟨w.heap.size + 2, 2, none⟩ (.int .i64 y.k)).setCell ⟨w.heap.size + 2, 3, none⟩ (.string y.s)).setCell ⟨w.heap.size + 2, 4, none⟩ (.int .i64 y.n)).setCell ⟨w.heap.size + 2, 5, none⟩ (.slice r1 y.l.length e1)).setCell ⟨w.heap.size + 2, 6, none⟩ (.slice r2 y.ds.length e2)).setCell ⟨w.heap.size + 2, 7, none⟩ (.slice r3 y.al.length e3))) := ((((((HPL2'.out.set _ _ _).set _ _ _).set _ _ _).set _ _ _).set _ _ _).set _ _ _)
  have HS2 : Hid (Stays (FromK (w.heap.size + 3)) w2 ((((((w2.setCell ⟨w.heap.size + 2, 2, none⟩ (.int .i64 y.k)).setCell ⟨w.heap.size + 2, 3, none⟩ (.string y.s)).setCell ⟨w.heap.size + 2, 4, none⟩ (.int .i64 y.n)).setCell ⟨w.heap.size + 2, 5, none⟩ (.slice r1 y.l.length e1)).setCell ⟨w.heap.size + 2, 6, none⟩ (.slice r2 y.ds.length e2)).setCell ⟨w.heap.size + 2, 7, none⟩ (.slice r3 y.al.length e3))) := Stays.trans (Stays.trans (Stays.trans (Stays.trans (Stays.trans (stays_from _ (w.heap.size + 2) 2 (.int .i64 y.k) (by omega) rfl) (stays_from _ (w.heap.size + 2) 3 (.string y.s) (by omega) rfl)) (stays_from _ (w.heap.size + 2) 4 (.int .i64 y.n) (by omega) rfl)) (stays_from _ (w.heap.size + 2) 5 (.slice r1 y.l.length e1) (by omega) rfl)) (stays_from _ (w.heap.size + 2) 6 (.slice r2 y.ds.length e2) (by omega) rfl)) (stays_from _ (w.heap.size + 2) 7 (.slice r3 y.al.length e3) (by omega) rfl)
  have HRF0 : Hid ((((((((w2.setCell ⟨w.heap.size + 2, 2, none⟩ (.int .i64 y.k)).setCell ⟨w.heap.size + 2, 3, none⟩ (.string y.s)).setCell ⟨w.heap.size + 2, 4, none⟩ (.int .i64 y.n)).setCell ⟨w.heap.size + 2, 5, none⟩ (.slice r1 y.l.length e1)).setCell ⟨w.heap.size + 2, 6, none⟩ (.slice r2 y.ds.length e2)).setCell ⟨w.heap.size + 2, 7, none⟩ (.slice r3 y.al.length e3)).setCell ⟨w.heap.size + 1, 0, none⟩ (.string x.s)).heap[w.heap.size + 1]? = some (.cells #[.string x.s, .slice none 0 0, .int .i64 0, .string ⟨#[]⟩, .int .i64 0, .slice none 0 0, .slice none 0 0, .slice none 0 0] 54 (0, 0))) := heap_set_same _ HR2.out
  have HRF1 : Hid (((((((((w2.setCell ⟨w.heap.size + 2, 2, none⟩ (.int .i64 y.k)).setCell ⟨w.heap.size + 2, 3, none⟩ (.string y.s)).setCell ⟨w.heap.size + 2, 4, none⟩ (.int .i64 y.n)).setCell ⟨w.heap.size + 2, 5, none⟩ (.slice r1 y.l.length e1)).setCell ⟨w.heap.size + 2, 6, none⟩ (.slice r2 y.ds.length e2)).setCell ⟨w.heap.size + 2, 7, none⟩ (.slice r3 y.al.length e3)).setCell ⟨w.heap.size + 1, 0, none⟩ (.string x.s)).setCell ⟨w.heap.size + 1, 1, none⟩ (.slice p1 x.ss.length d1)).heap[w.heap.size + 1]? = some (.cells #[.string x.s, .slice p1 x.ss.length d1, .int .i64 0, .string ⟨#[]⟩, .int .i64 0, .slice none 0 0, .slice none 0 0, .slice none 0 0] 54 (0, 0))) := heap_set_same _ HRF0.out
  have HRF2 : Hid ((((((((((w2.setCell ⟨w.heap.size + 2, 2, none⟩ (.int .i64 y.k)).setCell ⟨w.heap.size + 2, 3, none⟩ (.string y.s)).setCell ⟨w.heap.size + 2, 4, none⟩ (.int .i64 y.n)).setCell ⟨w.heap.size + 2, 5, none⟩ (.slice r1 y.l.length e1)).setCell ⟨w.heap.size + 2, 6, none⟩ (.slice r2 y.ds.length e2)).setCell ⟨w.heap.size + 2, 7, none⟩ (.slice r3 y.al.length e3)).setCell ⟨w.heap.size + 1, 0, none⟩ (.string x.s)).setCell ⟨w.heap.size + 1, 1, none⟩ (.slice p1 x.ss.length d1)).setCell ⟨w.heap.size + 1, 2, none⟩ (.int .i64 y.k)).heap[w.heap.size + 1]? = some (.cells #[.string x.s, .slice p1 x.ss.length d1, .int .i64 y.k, .string ⟨#[]⟩, .int .i64 0, .slice none 0 0, .slice none 0 0, .slice none 0 0] 54 (0, 0))) := heap_set_same _ HRF1.out
  have HRF3 : Hid (((((((((((w2.setCell ⟨w.heap.size + 2, 2, none⟩ (.int .i64 y.k)).setCell ⟨w.heap.size + 2, 3, none⟩ (.string y.s)).setCell ⟨w.heap.size + 2, 4, none⟩ (.int .i64 y.n)).setCell ⟨w.heap.size + 2, 5, none⟩ (.slice r1 y.l.length e1)).setCell ⟨w.heap.size + 2, 6, none⟩ (.slice r2 y.ds.length e2)).setCell ⟨w.heap.size + 2, 7, none⟩ (.slice r3 y.al.length e3)).setCell ⟨w.heap.size + 1, 0, none⟩ (.string x.s)).setCell ⟨w.heap.size + 1, 1, none⟩ (.slice p1 x.ss.length d1)).setCell ⟨w.heap.size + 1, 2, none⟩ (.int .i64 y.k)).setCell ⟨w.heap.size + 1, 3, none⟩ (.string y.s)).heap[w.heap.size + 1]? = some (.cells #[.string x.s, .slice p1 x.ss.length d1, .int .i64 y.k, .string y.s, .int .i64 0, .slice none 0 0, .slice none 0 0, .slice none 0 0] 54 (0, 0))) := heap_set_same _ HRF2.out
  have HRF4 : Hid ((((((((((((w2.setCell ⟨w.heap.size + 2, 2, none⟩ (.int .i64 y.k)).setCell ⟨w.heap.size + 2, 3, none⟩ (.string y.s)).setCell ⟨w.heap.size + 2, 4, none⟩ (.int .i64 y.n)).setCell ⟨w.heap.size + 2, 5, none⟩ (.slice r1 y.l.length e1)).setCell ⟨w.heap.size + 2, 6, none⟩ (.slice r2 y.ds.length e2)).setCell ⟨w.heap.size + 2, 7, none⟩ (.slice r3 y.al.length e3)).setCell ⟨w.heap.size + 1, 0, none⟩ (.string x.s)).setCell ⟨w.heap.size + 1, 1, none⟩ (.slice p1 x.ss.length d1)).setCell ⟨w.heap.size + 1, 2, none⟩ (.int .i64 y.k)).setCell ⟨w.heap.size + 1, 3, none⟩ (.string y.s)).setCell ⟨w.heap.size + 1, 4, none⟩ (.int .i64 y.n)).heap[w.heap.size + 1]? = some (.cells #[.string x.s, .slice p1 x.ss.length d1, .int .i64 y.k, .string y.s, .int .i64 y.n, .slice none 0 0, .slice none 0 0, .slice none 0 0] 54 (0, 0))) := heap_set_same _ HRF3.out
  have HRF5 : Hid (((((((((((((w2.setCell ⟨w.heap.size + 2, 2, none⟩ (.int .i64 y.k)).setCell ⟨w.heap.size + 2, 3, none⟩ (.string y.s)).setCell ⟨w.heap.size + 2, 4, none⟩ (.int .i64 y.n)).setCell ⟨w.heap.size + 2, 5, none⟩ (.slice r1 y.l.length e1)).setCell ⟨w.heap.size + 2, 6, none⟩ (.slice r2 y.ds.length e2)).setCell ⟨w.heap.size + 2, 7, none⟩ (.slice r3 y.al.length e3)).setCell ⟨w.heap.size + 1, 0, none⟩ (.string x.s)).setCell ⟨w.heap.size + 1, 1, none⟩ (.slice p1 x.ss.length d1)).setCell ⟨w.heap.size + 1, 2, none⟩ (.int .i64 y.k)).setCell ⟨w.heap.size + 1, 3, none⟩ (.string y.s)).setCell ⟨w.heap.size + 1, 4, none⟩ (.int .i64 y.n)).setCell ⟨w.heap.size + 1, 5, none⟩ (.slice r1 y.l.length e1)).heap[w.heap.size + 1]? = some (.cells #[.string x.s, .slice p1 x.ss.length d1, .int .i64 y.k, .string y.s, .int .i64 y.n, .slice r1 y.l.length e1, .slice none 0 0, .slice none 0 0] 54 (0, 0))) := heap_set_same _ HRF4.out
  have HRF6 : Hid ((((((((((((((w2.setCell ⟨w.heap.size + 2, 2, none⟩ (.int .i64 y.k)).setCell ⟨w.heap.size + 2, 3, none⟩ (.string y.s)).setCell ⟨w.heap.size + 2, 4, none⟩ (.int .i64 y.n)).setCell ⟨w.heap.size + 2, 5, none⟩ (.slice r1 y.l.length e1)).setCell ⟨w.heap.size + 2, 6, none⟩ (.slice r2 y.ds.length e2)).setCell ⟨w.heap.size + 2, 7, none⟩ (.slice r3 y.al.length e3)).setCell ⟨w.heap.size + 1, 0, none⟩ (.string x.s)).setCell ⟨w.heap.size + 1, 1, none⟩ (.slice p1 x.ss.length d1)).setCell ⟨w.heap.size + 1, 2, none⟩ (.int .i64 y.k)).setCell ⟨w.heap.size + 1, 3, none⟩ (.string y.s)).setCell ⟨w.heap.size + 1, 4, none⟩ (.int .i64 y.n)).setCell ⟨w.heap.size + 1, 5, none⟩ (.slice r1 y.l.length e1)).setCell ⟨w.heap.size + 1, 6, none⟩ (.slice r2 y.ds.length e2)).heap[w.heap.size + 1]? = some (.cells #[.string x.s, .slice p1 x.ss.length d1, .int .i64 y.k, .string y.s, .int .i64 y.n, .slice r1 y.l.length e1, .slice r2 y.ds.length e2, .slice none 0 0] 54 (0, 0))) := heap_set_same _ HRF5.out
  have HRF7 : Hid (((((((((((((((w2.setCell ⟨w.heap.size + 2, 2, none⟩ (.int .i64 y.k)).setCell ⟨w.heap.size + 2, 3, none⟩ (.string y.s)).setCell ⟨w.heap.size + 2, 4, none⟩ (.int .i64 y.n)).setCell ⟨w.heap.size + 2, 5, none⟩ (.slice r1 y.l.length e1)).setCell ⟨w.heap.size + 2, 6, none⟩ (.slice r2 y.ds.length e2)).setCell ⟨w.heap.size + 2, 7, none⟩ (.slice r3 y.al.length e3)).setCell ⟨w.heap.size + 1, 0, none⟩ (.string x.s)).setCell ⟨w.heap.size + 1, 1, none⟩ (.slice p1 x.ss.length d1)).setCell ⟨w.heap.size + 1, 2, none⟩ (.int .i64 y.k)).setCell ⟨w.heap.size + 1, 3, none⟩ (.string y.s)).setCell ⟨w.heap.size + 1, 4, none⟩ (.int .i64 y.n)).setCell ⟨w.heap.size + 1, 5, none⟩ (.slice r1 y.l.length e1)).setCell ⟨w.heap.size + 1, 6, none⟩ (.slice r2 y.ds.length e2)).setCell ⟨w.heap.size + 1, 7, none⟩ (.slice r3 y.al.length e3)).heap[w.heap.size + 1]? = some (.cells #[.string x.s, .slice p1 x.ss.length d1, .int .i64 y.k, .string y.s, .int .i64 y.n, .slice r1 y.l.length e1, .slice r2 y.ds.length e2, .slice r3 y.al.length e3] 54 (0, 0))) := heap_set_same _ HRF6.out
  go_wp2
  have stw2 := Stays.trans (Stays.trans (Stays.trans (Stays.trans (Stays.trans (Stays.trans (Stays.trans (Stays.trans (HS2.out) (stays_from (w.heap.size + 3) (w.heap.size + 1) 0 (.string x.s) (by omega) rfl)) (stays_from (w.heap.size + 3) (w.heap.size + 1) 1 (.slice p1 x.ss.length d1) (by omega) rfl)) (stays_from (w.heap.size + 3) (w.heap.size + 1) 2 (.int .i64 y.k) (by omega) rfl)) (stays_from (w.heap.size + 3) (w.heap.size + 1) 3 (.string y.s) (by omega) rfl)) (stays_from (w.heap.size + 3) (w.heap.size + 1) 4 (.int .i64 y.n) (by omega) rfl)) (stays_from (w.heap.size + 3) (w.heap.size + 1) 5 (.slice r1 y.l.length e1) (by omega) rfl)) (stays_from (w.heap.size + 3) (w.heap.size + 1) 6 (.slice r2 y.ds.length e2) (by omega) rfl)) (stays_from (w.heap.size + 3) (w.heap.size + 1) 7 (.slice r3 y.al.length e3) (by omega) rfl)
  have stw1 := (HS1.out.trans (Stays.of HBK2.out)).trans stw2
  refine bodyPost_ret (v := .agg #[.string x.s, .slice p1 x.ss.length d1, .int .i64 y.k, .string y.s, .int .i64 y.n, .slice r1 y.l.length e1, .slice r2 y.ds.length e2, .slice r3 y.al.length e3]) ?_ rfl ?_
  · exact results_cell_row rfl _ _ (w.heap.size + 1) 54 _ (0, 0) _ rfl (HRF7.out) Try.underlying54 rfl (by kernel_rfl)
  · refine ⟨[.string x.s, .slice p1 x.ss.length d1, .int .i64 y.k, .string y.s, .int .i64 y.n, .slice r1 y.l.length e1, .slice r2 y.ds.length e2, .slice r3 y.al.length e3], rfl, rfl, ?_, ?_, ((((((((HPL2.out.set _ _ _).set _ _ _).set _ _ _).set _ _ _).set _ _ _).set _ _ _).set _ _ _).set _ _ _)⟩
    · skip
      have rw1 := HRW1.out.frame (stw1.less (FromK.up hz0)) (FromK.up (m := w.heap.size) (Nat.le_trans (Nat.le_add_right _ 3) hz0)) (fun _ _ h => h)
      have rw2 := (reads_frame (stw2.less (FromK.up hz1)) (FromK.up (m := w.heap.size) (Nat.le_trans (Nat.le_add_right _ 3) hz1)) h).1 _ _ HRW2.out
      exact ⟨HZ.out.1, HZ.out.2.1, HZ.out.2.2.1, HZ.out.2.2.2, y, p1, d1, [.int .i64 y.k, .string y.s, .int .i64 y.n, .slice r1 y.l.length e1, .slice r2 y.ds.length e2, .slice r3 y.al.length e3], HY.out, rfl, HL4.out.1, ⟨HL4.out.2.1.1, hcap1⟩, rw1, rfl, rw2⟩
    · exact ((((((((HB2.out.setCell (Nat.le_add_right _ _) _).setCell (Nat.le_add_right _ _) _).setCell (Nat.le_add_right _ _) _).setCell (Nat.le_add_right _ _) _).setCell (Nat.le_add_right _ _) _).setCell (Nat.le_add_right _ _) _).setCell (Nat.le_add_right _ _) _).setCell (Nat.le_add_right _ _) _)

theorem to_all (h : Nat) : ToEx h ∧ ToDe h ∧ ToAl h := by
  induction h with
  | zero => exact ⟨fun _ _ _ hr => hr.elim, fun _ _ _ hr => hr.elim, fun _ _ _ hr => hr.elim⟩
  | succ h ih => exact ⟨toExp_step ih.1 ih.2.1 ih.2.2, toDec_step ih.1 ih.2.1, toAlt_step ih.1⟩
end Go.Proofs.Ytgeckgdmkjddpaa

/- Made of ZXG, ZXH, ZXI. -/
import Derived.Test.YtgeckgdmkjddpaaZXF
import Derived.Test.YtgeckgdmkjddpaaQ07
namespace Go.Proofs.Ytgeckgdmkjddpaa.Cp
open Go.ChangeShapes Go.WideShapes Go.ChangeAt Go.RowKit Go.Proofs.Ytgeckgdmkjddpaa.Vo Go.Proofs.Ytgeckgdmkjddpaa.Rd Go.Proofs.Ytgeckgdmkjddpaa.Br
set_option linter.unusedVariables false

theorem keeps_drewN {K : Nat → Prop} {w w' : World} (h : Keeps K w w') (n : Nat) : Keeps K w (w'.drewN n) := ⟨h.os, h.tape, h.output, h.size, h.block⟩
theorem Mem.drewN {K : Nat → Prop} {w0 w : World} {C M : Nat} {E D A : List Pe} {N : List Ne} {X : List Nat} (h : Mem K w0 C M E D A N X w) (n : Nat) : Mem K w0 C M E D A N X (w.drewN n) := h.below (below_drewN (Below.refl _ w) n)
theorem Mem.ptrs {K : Nat → Prop} {w0 w : World} {C M : Nat} {E D A : List Pe} {N : List Ne} {X : List Nat} (h : Mem K w0 C M E D A N X w) : (∃ a b c d, w.heap[C]? = some (.cells (ecv a b c d M) 85 (0, 0))) ∧ Txs w M ∧ (∀ g ∈ X, g ≠ C ∧ g ≠ M) ∧ M ≠ C ∧ w0.heap.size ≤ C ∧ w0.heap.size ≤ M := by
  obtain ⟨a, b, c, d, h⟩ := h
  have h1 := h.apart.1
  unfold blks at h1
  have h2 := List.nodup_cons.1 h1
  have h3 := List.nodup_cons.1 h2.2
  refine ⟨⟨a, b, c, d, h.box⟩, h.txs, fun g hg => ⟨fun e => h2.1 (by rw [← e]; simp [hg]), fun e => h3.1 (by rw [← e]; simp [hg])⟩, fun e => h2.1 (by rw [e]; simp), (h.apart.2 C (by simp [blks])).1, (h.apart.2 M (by simp [blks])).1⟩
/-- The texts alone have changed. -/
theorem Mem.texts {K : Nat → Prop} {w0 w w' : World} {C M : Nat} {E D A : List Pe} {N : List Ne} {X : List Nat} (h : Mem K w0 C M E D A N X w) (ht : Txs w' M) (hv : Mv M w w') : Mem K w0 C M E D A N X w' ∧ Keeps (fun b => b < w.heap.size ∧ b ≠ M) w w' := by
  refine ⟨?_, hv⟩
  obtain ⟨a, b, c, d, h⟩ := h
  have hn := h.apart.1
  have h1 := hn
  unfold blks at h1
  have h3 := (List.nodup_cons.1 (List.nodup_cons.1 h1).2).1
  have hC : C ≠ M := fun e => (List.nodup_cons.1 h1).1 (by rw [e]; simp)
  have hne : ∀ z ∈ C :: (blks C M a b c d E D A N X).tail.tail, w'.heap[z]? = w.heap[z]? := fun z hz => hv.block z ⟨(h.apart.2 z (by
    rcases List.mem_cons.1 hz with rfl | hz
    · simp [blks]
    · exact List.mem_of_mem_tail (List.mem_of_mem_tail hz))).2, fun e => by
      subst e
      rcases List.mem_cons.1 hz with e2 | hz
      · exact hC e2.symm
      · exact h3 (by simpa [blks] using hz)⟩
  refine ⟨a, b, c, d, (hne C (by simp)).trans h.box, h.rE.frame fun z hz => hne z (by simp [blks, hz]), h.rD.frame fun z hz => hne z (by simp [blks, hz]), h.rA.frame fun z hz => hne z (by simp [blks, hz]), h.rN.frame fun z hz => hne z (by simp [blks, hz]), ht, fun p hp => ⟨(h.pE p hp).1, (h.pE p hp).2.keep (hne _ ?_)⟩, fun p hp => ⟨(h.pD p hp).1, (h.pD p hp).2.keep (hne _ ?_)⟩, fun p hp => ⟨(h.pA p hp).1, (h.pA p hp).2.keep (hne _ ?_)⟩, fun p hp => (h.pN p hp).keep (hne _ ?_), h.apart.wide (Nat.le_refl _) hv.size, h.old.trans ⟨hv.os, hv.tape, hv.output, hv.size, fun z hz => hv.block z ⟨by have := h.old.size; omega, fun e => by have := (h.apart.2 M (by simp [blks])).1; omega⟩⟩⟩
  · have h9 : p.g ∈ E.map Pe.g := List.mem_map_of_mem hp
    simp only [blks, List.tail_cons, List.mem_cons, List.mem_append]; simp [h9]
  · have h9 : p.g ∈ D.map Pe.g := List.mem_map_of_mem hp
    simp only [blks, List.tail_cons, List.mem_cons, List.mem_append]; simp [h9]
  · have h9 : p.g ∈ A.map Pe.g := List.mem_map_of_mem hp
    simp only [blks, List.tail_cons, List.mem_cons, List.mem_append]; simp [h9]
  · have h9 : p.g ∈ N.map Ne.g := List.mem_map_of_mem hp
    simp only [blks, List.tail_cons, List.mem_cons, List.mem_append]; simp [h9]
/-- A row with three cells set. -/
def set3 (arr : Array Value) (p : Nat) (v1 v2 v3 : Value) : Array Value := ((arr.set! (p + 3) v1).set! (p + 4) v2).set! (p + 5) v3

set_option maxHeartbeats 4000000 in
set_option maxRecDepth 100000 in
theorem exp_any {K : Nat → Prop} {w0 w : World} {C M : Nat} {E D A : List Pe} {N : List Ne} {X : List Nat} (hm : Mem K w0 C M E D A N X w) {g p : Nat} (hg : g ∈ X) {arr : Array Value} {T : TypeId} (hbk : w.heap[g]? = some (.cells arr T (0, 0))) (h : Nat) (x : Tr) (cs : List Value) (hr : (reads K w0 (h + 1)).ex x cs) (hat : ∀ (j : Nat) u, cs[j]? = some u → arr[p + j]? = some u) (hw : (wts (h + 1)).ex x ≤ 1048576) (hE : E.length ≤ 3000000) (hD : D.length ≤ 3000000) (hA : A.length ≤ 3000000) :
    Calls Try.prog 56 #[.pointer (some ⟨C, 0, none⟩), .pointer (some ⟨g, p, none⟩), .bool false] w fun e w' => e = .returned (.tuple #[]) ∧ ∃ v1 v2 v3 F1 F2 F3, NewP 0 h x.l v1 F1 ∧ NewP 1 h x.ds v2 F2 ∧ NewP 2 h x.al v3 F3 ∧ Mem K w0 C M (E ++ F1) (D ++ F2) (A ++ F3) N X w' ∧ w'.heap[g]? = some (.cells (set3 arr p v1 v2 v3) T (0, 0)) ∧ Keeps (fun b => b < w0.heap.size ∨ (b ∈ X ∧ b ≠ g)) w w' := by
  obtain ⟨-, o1, c1, o2, c2, o3, c3, rfl, hs, f1, f2, f3, r1, r2, r3⟩ := hr
  have hws : x.s.size + lw (wts h).ex x.l + lw (wts h).de x.ds + lw (wts h).al x.al ≤ 1048576 := hw
  have hl1 : x.l.length ≤ 1048576 := by unfold lw at hws; omega
  have hl2 : x.ds.length ≤ 1048576 := by unfold lw at hws; omega
  have hl3 : x.al.length ≤ 1048576 := by unfold lw at hws; omega
  have hss : x.s.size ≤ 1048576 := by omega
  have q := fun j u hj => hat j u hj
  have q1 := hat 1 _ rfl
  have q3 := hat 3 _ rfl
  have Q1 := hide q1
  have q4 := hat 4 _ rfl
  have q5 := hat 5 _ rfl
  have hp6 : p + 5 < arr.size := (Array.getElem?_eq_some_iff.1 q5).1
  obtain ⟨⟨a, b, c, d, hbox⟩, htx, hXC, hMC, hC0, hM0⟩ := hm.ptrs
  obtain ⟨hgC, hgM⟩ := hXC g hg
  have HM := hide hm
  have R1 := hide r1
  have R2 := hide r2
  have R3 := hide r3
  have HXC := hide hXC
  have HBK := hide hbk
  have HBOX := hide hbox
  have HQ3U := hide q3
  have HQ4U := hide q4
  have HQ5U := hide q5
  have HTX := hide htx
  clear hm r1 r2 r3 hXC hat q hs hw
  have b1 := cell_of hbk (p + 1)
  rw [q1] at b1
  have t8 := cell_of hbox 8
  simp only [ecv, List.getElem?_toArray, List.getElem?_cons_succ, List.getElem?_cons_zero] at t8
  have s1 := kpt_cell (K := fun b => b = C ∨ b = g) (.inr rfl) b1
  have s8 := kpt_cell (K := fun b => b = C ∨ b = g) (.inl rfl) t8
  have hne0 : Nonempty (KptW (fun b => b = C ∨ b = g) w) := kpt_nonempty _ _
  clear b1 t8 q1 q3 q4 q5 hbk hbox htx
  go_enter Try.func56, Try.ntmps56
  go_upto_region 9 with fail
  refine wp_region_last (S := fun w' => ∃ q : KptW (fun b => b = C ∨ b = g) w, w' = q.w) [([0, 1, 2, 3, 4, 5, 6, 7, 8], 9)] ([10, 11], 12) 14 (by kernel_rfl) (by kernel_rfl) (by kernel_rfl) (by kernel_rfl) ⟨⟨_, kpt_drew _ w 1⟩, rfl⟩ ?_
  simp only [wpSchL, pickO, consO, List.getElem?_toArray, List.getElem?_cons_succ, List.getElem?_cons_zero]
  repeat (first | go_big_quiet_skip | (go_big_quiet_want; go_big_quiet_op; go_big_quiet_on))
  refine wpQuiet_nil ?_
  go_wp2_with fail
  refine (of_any M x.s (w.drewN 1) hss (HTX.out.keep rfl)).mono ?_
  rintro e U ⟨rfl, htU, hvU⟩
  have hmU := (HM.out.drewN 1).texts htU hvU
  have hgU : U.heap[g]? = some (.cells arr T (0, 0)) := (hvU.block g ⟨heap_lt HBK.out, hgM⟩).trans HBK.out
  have hKU : Keeps (fun b => b = C ∨ b = g) w U := ⟨hvU.os, hvU.tape, hvU.output, hvU.size, fun b hb => by
    rcases hb with rfl | rfl
    · exact hvU.block b ⟨heap_lt HBOX.out, fun e => hMC e.symm⟩
    · exact hvU.block b ⟨heap_lt HBK.out, hgM⟩⟩
  have HXU : Hid (Keeps (fun b => b < w0.heap.size ∨ (b ∈ X ∧ b ≠ g)) w U) := ⟨hvU.os, hvU.tape, hvU.output, hvU.size, fun b hb => by
    rcases hb with hb | hb
    · exact hvU.block b ⟨by have := HM.out.size; show b < w.heap.size; omega, by omega⟩
    · exact hvU.block b ⟨(HM.out.x_lt hb.1).2, (HXC.out b hb.1).2⟩⟩
  go_wp2
  refine ⟨⟨⟨U, hKU⟩, rfl⟩, ?_⟩
  repeat (first | go_big_quiet_skip | (go_big_quiet_want; go_big_quiet_op; go_big_quiet_on))
  refine wpQuiet_nil ?_
  have hst := set_self hgU Q1.out
  have u1 := cell_of hgU (p + 1)
  rw [Q1.out] at u1
  have fu := frozen_of hgU (p + 1)
  have HGU := hide hgU
  have HMU := hide hmU.1
  clear htU hvU hKU hmU hgU s1 s8 hne0
  go_upto_region 10 with fail
  have t3 := cell_of HGU.out (p + 3)
  rw [HQ3U.out] at t3
  have s3 := kpt_cell (K := fun b => b = g) rfl t3
  have hne3 : Nonempty (KptW (fun b => b = g) U) := kpt_nonempty _ _
  clear t3
  refine wp_region_last (S := fun w' => ∃ q : KptW (fun b => b = g) U, w' = q.w) [([0, 1, 2, 3, 4, 5, 6, 7, 8], 9)] ([10, 11], 12) 14 (by kernel_rfl) (by kernel_rfl) (by kernel_rfl) (by kernel_rfl) ⟨⟨_, kpt_drew _ U 1⟩, rfl⟩ ?_
  simp only [wpSchL, pickO, consO, List.getElem?_toArray, List.getElem?_cons_succ, List.getElem?_cons_zero]
  repeat (first | go_big_quiet_skip | (go_big_quiet_want; go_big_quiet_op; go_big_quiet_on))
  refine wpQuiet_nil ?_
  go_wp2_with fail
  refine (copy_0 (HMU.out.drewN 1) h x.l o1 c1 R1.out f1.2 hl1 hE).mono ?_
  rintro e V1 ⟨v1, F1, rfl, hn1, hmV, hkV⟩
  obtain ⟨o1a, c1a, rfl⟩ := hn1.form
  have hgV : V1.heap[g]? = some (.cells arr T (0, 0)) := (hkV.block g (.inr hg)).trans HGU.out
  go_wp2
  refine ⟨⟨⟨V1, ⟨hkV.os, hkV.tape, hkV.output, hkV.size, fun b hb => by rw [hb]; exact hkV.block g (.inr hg)⟩⟩, rfl⟩, ?_⟩
  repeat (first | go_big_quiet_skip | (go_big_quiet_want; go_big_quiet_op; go_big_quiet_on))
  refine wpQuiet_nil ?_
  have u3 := cell_of hgV (p + 3)
  rw [HQ3U.out] at u3
  have fu := frozen_of hgV (p + 3)
  obtain ⟨U1, hU1⟩ : ∃ W, V1.setCell ⟨g, p + 3, none⟩ (.slice o1a x.l.length c1a) = W := ⟨_, rfl⟩
  have HMU1 := hide (hmV.set (j := p + 3) (v := .slice o1a x.l.length c1a) hg)
  have hgU1 := heap_set_same (j := p + 3) (.slice o1a x.l.length c1a) hgV
  have hks := Mv.set g (p + 3) V1 (.slice o1a x.l.length c1a)
  rw [hU1] at HMU1 hgU1 hks
  have HGU1 := hide hgU1
  have HXU1 : Hid (Keeps (fun b => b < w0.heap.size ∨ (b ∈ X ∧ b ≠ g)) w U1) := HXU.out.trans ⟨hks.os.trans hkV.os, hks.tape.trans hkV.tape, hks.output.trans hkV.output, Nat.le_trans hkV.size hks.size, fun b hb => by
    have hbV : b < V1.heap.size ∧ b ≠ g := by
      rcases hb with hb | hb
      · have := hmV.size
        have := (hmV.x_lt hg).1
        exact ⟨by omega, by omega⟩
      · exact ⟨(hmV.x_lt hb.1).2, hb.2⟩
    exact (hks.block b hbV).trans (hkV.block b (hb.imp id fun h => h.1))⟩
  have HN1 := hide hn1
  have HQ4U1 : Hid ((arr.set! (p + 3) (.slice o1a x.l.length c1a))[p + 4]? = arr[p + 4]?) := hide (by rw [Array.set!_eq_setIfInBounds, Array.getElem?_setIfInBounds, if_neg (by omega)])
  rw [HQ4U.out] at HQ4U1
  have HQ5U1 : Hid ((arr.set! (p + 3) (.slice o1a x.l.length c1a))[p + 5]? = arr[p + 5]?) := hide (by rw [Array.set!_eq_setIfInBounds, Array.getElem?_setIfInBounds, if_neg (by omega)])
  rw [HQ5U.out] at HQ5U1
  clear hmV hkV hgV hgU1 hks hn1 s3 hne3 HXU HMU HGU
  go_upto_region 11 with fail
  have t3 := cell_of HGU1.out (p + 4)
  rw [HQ4U1.out] at t3
  have s3 := kpt_cell (K := fun b => b = g) rfl t3
  have hne3 : Nonempty (KptW (fun b => b = g) U1) := kpt_nonempty _ _
  clear t3
  refine wp_region_last (S := fun w' => ∃ q : KptW (fun b => b = g) U1, w' = q.w) [([0, 1, 2, 3, 4, 5, 6, 7, 8], 9)] ([10, 11], 12) 14 (by kernel_rfl) (by kernel_rfl) (by kernel_rfl) (by kernel_rfl) ⟨⟨_, kpt_drew _ U1 1⟩, rfl⟩ ?_
  simp only [wpSchL, pickO, consO, List.getElem?_toArray, List.getElem?_cons_succ, List.getElem?_cons_zero]
  repeat (first | go_big_quiet_skip | (go_big_quiet_want; go_big_quiet_op; go_big_quiet_on))
  refine wpQuiet_nil ?_
  go_wp2_with fail
  refine (copy_1 (HMU1.out.drewN 1) h x.ds o2 c2 R2.out f2.2 hl2 hD).mono ?_
  rintro e V2 ⟨v2, F2, rfl, hn2, hmV, hkV⟩
  obtain ⟨o2a, c2a, rfl⟩ := hn2.form
  have hgV : V2.heap[g]? = some (.cells (arr.set! (p + 3) (.slice o1a x.l.length c1a)) T (0, 0)) := (hkV.block g (.inr hg)).trans HGU1.out
  go_wp2
  refine ⟨⟨⟨V2, ⟨hkV.os, hkV.tape, hkV.output, hkV.size, fun b hb => by rw [hb]; exact hkV.block g (.inr hg)⟩⟩, rfl⟩, ?_⟩
  repeat (first | go_big_quiet_skip | (go_big_quiet_want; go_big_quiet_op; go_big_quiet_on))
  refine wpQuiet_nil ?_
  have u3 := cell_of hgV (p + 4)
  rw [HQ4U1.out] at u3
  have fu := frozen_of hgV (p + 4)
  obtain ⟨U2, hU2⟩ : ∃ W, V2.setCell ⟨g, p + 4, none⟩ (.slice o2a x.ds.length c2a) = W := ⟨_, rfl⟩
  have HMU2 := hide (hmV.set (j := p + 4) (v := .slice o2a x.ds.length c2a) hg)
  have hgU2 := heap_set_same (j := p + 4) (.slice o2a x.ds.length c2a) hgV
  have hks := Mv.set g (p + 4) V2 (.slice o2a x.ds.length c2a)
  rw [hU2] at HMU2 hgU2 hks
  have HGU2 := hide hgU2
  have HXU2 : Hid (Keeps (fun b => b < w0.heap.size ∨ (b ∈ X ∧ b ≠ g)) w U2) := HXU1.out.trans ⟨hks.os.trans hkV.os, hks.tape.trans hkV.tape, hks.output.trans hkV.output, Nat.le_trans hkV.size hks.size, fun b hb => by
    have hbV : b < V2.heap.size ∧ b ≠ g := by
      rcases hb with hb | hb
      · have := hmV.size
        have := (hmV.x_lt hg).1
        exact ⟨by omega, by omega⟩
      · exact ⟨(hmV.x_lt hb.1).2, hb.2⟩
    exact (hks.block b hbV).trans (hkV.block b (hb.imp id fun h => h.1))⟩
  have HN2 := hide hn2
  have HQ5U2 : Hid (((arr.set! (p + 3) (.slice o1a x.l.length c1a)).set! (p + 4) (.slice o2a x.ds.length c2a))[p + 5]? = (arr.set! (p + 3) (.slice o1a x.l.length c1a))[p + 5]?) := hide (by rw [Array.set!_eq_setIfInBounds, Array.getElem?_setIfInBounds, if_neg (by omega)])
  rw [HQ5U1.out] at HQ5U2
  clear hmV hkV hgV hgU2 hks hn2 s3 hne3 HXU1 HMU1 HGU1
  go_upto_region 12 with fail
  have t3 := cell_of HGU2.out (p + 5)
  rw [HQ5U2.out] at t3
  have s3 := kpt_cell (K := fun b => b = g) rfl t3
  have hne3 : Nonempty (KptW (fun b => b = g) U2) := kpt_nonempty _ _
  clear t3
  refine wp_region_last (S := fun w' => ∃ q : KptW (fun b => b = g) U2, w' = q.w) [([0, 1, 2, 3, 4, 5, 6, 7, 8], 9)] ([10, 11], 12) 14 (by kernel_rfl) (by kernel_rfl) (by kernel_rfl) (by kernel_rfl) ⟨⟨_, kpt_drew _ U2 1⟩, rfl⟩ ?_
  simp only [wpSchL, pickO, consO, List.getElem?_toArray, List.getElem?_cons_succ, List.getElem?_cons_zero]
  repeat (first | go_big_quiet_skip | (go_big_quiet_want; go_big_quiet_op; go_big_quiet_on))
  refine wpQuiet_nil ?_
  go_wp2_with fail
  refine (copy_2 (HMU2.out.drewN 1) h x.al o3 c3 R3.out f3.2 hl3 hA).mono ?_
  rintro e V3 ⟨v3, F3, rfl, hn3, hmV, hkV⟩
  obtain ⟨o3a, c3a, rfl⟩ := hn3.form
  have hgV : V3.heap[g]? = some (.cells ((arr.set! (p + 3) (.slice o1a x.l.length c1a)).set! (p + 4) (.slice o2a x.ds.length c2a)) T (0, 0)) := (hkV.block g (.inr hg)).trans HGU2.out
  go_wp2
  refine ⟨⟨⟨V3, ⟨hkV.os, hkV.tape, hkV.output, hkV.size, fun b hb => by rw [hb]; exact hkV.block g (.inr hg)⟩⟩, rfl⟩, ?_⟩
  repeat (first | go_big_quiet_skip | (go_big_quiet_want; go_big_quiet_op; go_big_quiet_on))
  refine wpQuiet_nil ?_
  have u3 := cell_of hgV (p + 5)
  rw [HQ5U2.out] at u3
  have fu := frozen_of hgV (p + 5)
  obtain ⟨U3, hU3⟩ : ∃ W, V3.setCell ⟨g, p + 5, none⟩ (.slice o3a x.al.length c3a) = W := ⟨_, rfl⟩
  have HMU3 := hide (hmV.set (j := p + 5) (v := .slice o3a x.al.length c3a) hg)
  have hgU3 := heap_set_same (j := p + 5) (.slice o3a x.al.length c3a) hgV
  have hks := Mv.set g (p + 5) V3 (.slice o3a x.al.length c3a)
  rw [hU3] at HMU3 hgU3 hks
  have HGU3 := hide hgU3
  have HXU3 : Hid (Keeps (fun b => b < w0.heap.size ∨ (b ∈ X ∧ b ≠ g)) w U3) := HXU2.out.trans ⟨hks.os.trans hkV.os, hks.tape.trans hkV.tape, hks.output.trans hkV.output, Nat.le_trans hkV.size hks.size, fun b hb => by
    have hbV : b < V3.heap.size ∧ b ≠ g := by
      rcases hb with hb | hb
      · have := hmV.size
        have := (hmV.x_lt hg).1
        exact ⟨by omega, by omega⟩
      · exact ⟨(hmV.x_lt hb.1).2, hb.2⟩
    exact (hks.block b hbV).trans (hkV.block b (hb.imp id fun h => h.1))⟩
  have HN3 := hide hn3
  clear hmV hkV hgV hgU3 hks hn3 s3 hne3 HXU2 HMU2 HGU2
  go_wp2
  go_end0
  exact ⟨rfl, _, _, _, F1, F2, F3, HN1.out, HN2.out, HN3.out, HMU3.out, HGU3.out, HXU3.out⟩
end Go.Proofs.Ytgeckgdmkjddpaa.Cp
namespace Go.Proofs.Ytgeckgdmkjddpaa.Cp
open Go.ChangeShapes Go.WideShapes Go.ChangeAt Go.RowKit Go.Proofs.Ytgeckgdmkjddpaa.Vo Go.Proofs.Ytgeckgdmkjddpaa.Rd Go.Proofs.Ytgeckgdmkjddpaa.Br
set_option linter.unusedVariables false

theorem sw_size {ss : List ByteArray} {n : Nat} (h : sw ss ≤ n) : ∀ s ∈ ss, s.size ≤ n := by
  intro s hs
  unfold sw at h
  have key : ∀ (l : List ByteArray), s ∈ l → s.size ≤ (l.map ByteArray.size).sum := by
    intro l
    induction l with
    | nil => intro h; cases h
    | cons a r ih =>
      intro h
      rw [List.map_cons, List.sum_cons]
      rcases List.mem_cons.1 h with e | h
      · rw [e]; omega
      · have := ih h; omega
  have := key ss hs
  omega

set_option maxHeartbeats 4000000 in
set_option maxRecDepth 100000 in
theorem alt_any {K : Nat → Prop} {w0 w : World} {C M : Nat} {E D A : List Pe} {N : List Ne} {X : List Nat} (hm : Mem K w0 C M E D A N X w) {g p : Nat} (hg : g ∈ X) {arr : Array Value} {T : TypeId} (hbk : w.heap[g]? = some (.cells arr T (0, 0))) (h : Nat) (x e : Tr) (o : Option Addr) (c : Nat) (ce : List Value) (hce : (reads K w0 (h + 1)).ex e ce) (hro : RowOf K w0 strR 1 o x.ss) (hfo : x.ss.length ≤ c) (hat : ∀ (j : Nat) u, ([.string x.s, .slice o x.ss.length c] ++ ce)[j]? = some u → arr[p + j]? = some u) (hs : x.s.size ≤ 1048576) (hsw : sw x.ss ≤ 1048576) (hw : (wts (h + 1)).ex e ≤ 1048576) (hE : E.length ≤ 3000000) (hD : D.length ≤ 3000000) (hA : A.length ≤ 3000000) (hN : N.length ≤ 3000000) :
    Calls Try.prog 59 #[.pointer (some ⟨C, 0, none⟩), .pointer (some ⟨g, p, none⟩), .bool false] w fun r w' => r = .returned (.tuple #[]) ∧ ∃ v v1 v2 v3 F F1 F2 F3, NewN x.ss v F ∧ NewP 0 h e.l v1 F1 ∧ NewP 1 h e.ds v2 F2 ∧ NewP 2 h e.al v3 F3 ∧ Mem K w0 C M (E ++ F1) (D ++ F2) (A ++ F3) (N ++ F) X w' ∧ w'.heap[g]? = some (.cells (set3 (arr.set! (p + 1) v) (p + 2) v1 v2 v3) T (0, 0)) ∧ Keeps (fun b => b < w0.heap.size ∨ (b ∈ X ∧ b ≠ g)) w w' := by
  have hln : x.ss.length ≤ 1048576 := by unfold sw at hsw; omega
  have hsz := sw_size hsw
  have q0 := hat 0 _ rfl
  rw [Nat.add_zero] at q0
  have q1 := hat 1 _ rfl
  have hp1 : p + 1 < arr.size := (Array.getElem?_eq_some_iff.1 q1).1
  obtain ⟨⟨a, b, c', d, hbox⟩, htx, hXC, hMC, hC0, hM0⟩ := hm.ptrs
  obtain ⟨hgC, hgM⟩ := hXC g hg
  have HM := hide hm
  have HRO := hide hro
  have HCE := hide hce
  have HAT := hide hat
  have HXC := hide hXC
  have HBK := hide hbk
  have HBOX := hide hbox
  have HTX := hide htx
  have HSZ := hide hsz
  have Q0 := hide q0
  have Q1 := hide q1
  clear hm hro hce hat hXC hsz
  clear q0 q1 hbk hbox htx
  go_enter Try.func59, Try.ntmps59
  go_wp2
  go_quiet (fail)
  generalize hwd : w.drewN _ = wd
  have hbd : Below w.heap.size w wd := by rw [← hwd]; exact below_drewN (Below.refl _ w) _
  have HMD := hide (HM.out.below hbd)
  have HTXD := hide (HTX.out.keep (hbd.block _ HTX.out.lt))
  have HBKD := hide ((hbd.block _ (heap_lt HBK.out)).trans HBK.out)
  have HBOXD := hide ((hbd.block _ (heap_lt HBOX.out)).trans HBOX.out)
  have HBD := hide hbd
  have b0 := cell_of HBKD.out p
  rw [Q0.out] at b0
  have t8 := cell_of HBOXD.out 8
  simp only [ecv, List.getElem?_toArray, List.getElem?_cons_succ, List.getElem?_cons_zero] at t8
  have s0 := kpt_cell (K := fun b => b = C ∨ b = g) (.inr rfl) b0
  have s8 := kpt_cell (K := fun b => b = C ∨ b = g) (.inl rfl) t8
  have hne0 : Nonempty (KptW (fun b => b = C ∨ b = g) wd) := kpt_nonempty _ _
  clear b0 t8 hbd
  go_upto_region 1 with fail
  refine wp_region_last (S := fun w' => ∃ q : KptW (fun b => b = C ∨ b = g) wd, w' = q.w) [([0, 1, 2, 3, 4, 5, 6, 7, 8], 9)] ([10, 11], 12) 14 (by kernel_rfl) (by kernel_rfl) (by kernel_rfl) (by kernel_rfl) ⟨⟨_, kpt_drew _ wd 1⟩, rfl⟩ ?_
  simp only [wpSchL, pickO, consO, List.getElem?_toArray, List.getElem?_cons_succ, List.getElem?_cons_zero]
  repeat (first | go_big_quiet_skip | (go_big_quiet_want; go_big_quiet_op; go_big_quiet_on))
  refine wpQuiet_nil ?_
  go_wp2_with fail
  refine (of_any M x.s (wd.drewN 1) hs (HTXD.out.keep rfl)).mono ?_
  rintro r U ⟨rfl, htU, hvU⟩
  have hmU := (HMD.out.drewN 1).texts htU hvU
  have hgU : U.heap[g]? = some (.cells arr T (0, 0)) := (hvU.block g ⟨heap_lt HBKD.out, hgM⟩).trans HBKD.out
  have hKU : Keeps (fun b => b = C ∨ b = g) wd U := ⟨hvU.os, hvU.tape, hvU.output, hvU.size, fun b hb => by
    rcases hb with rfl | rfl
    · exact hvU.block b ⟨heap_lt HBOXD.out, fun e => hMC e.symm⟩
    · exact hvU.block b ⟨heap_lt HBKD.out, hgM⟩⟩
  have HXU : Hid (Keeps (fun b => b < w0.heap.size ∨ (b ∈ X ∧ b ≠ g)) w U) := ⟨hvU.os.trans HBD.out.os, hvU.tape.trans HBD.out.tape, hvU.output.trans HBD.out.output, Nat.le_trans HBD.out.size hvU.size, fun b hb => by
    have hbw : b < w.heap.size := by
      rcases hb with hb | hb
      · have := HM.out.size; omega
      · exact (HM.out.x_lt hb.1).2
    have hbs := HBD.out.size
    refine (hvU.block b ⟨by show b < wd.heap.size; omega, ?_⟩).trans (HBD.out.block b hbw)
    rcases hb with hb | hb
    · omega
    · exact (HXC.out b hb.1).2⟩
  go_wp2
  refine ⟨⟨⟨U, hKU⟩, rfl⟩, ?_⟩
  repeat (first | go_big_quiet_skip | (go_big_quiet_want; go_big_quiet_op; go_big_quiet_on))
  refine wpQuiet_nil ?_
  have hst := set_self hgU Q0.out
  have u1 := cell_of hgU p
  rw [Q0.out] at u1
  have fu := frozen_of hgU p
  have HGU := hide hgU
  have HMU := hide hmU.1
  have t3 := cell_of hgU (p + 1)
  rw [Q1.out] at t3
  have s3 := kpt_cell (K := fun b => b = g) rfl t3
  have hne3 : Nonempty (KptW (fun b => b = g) U) := kpt_nonempty _ _
  clear htU hvU hKU hmU hgU s0 s8 hne0 t3
  go_upto_region 2 with fail
  refine wp_region_last (S := fun w' => ∃ q : KptW (fun b => b = g) U, w' = q.w) [([0, 1, 2, 3, 4, 5, 6, 7], 8)] ([9, 10], 11) 13 (by kernel_rfl) (by kernel_rfl) (by kernel_rfl) (by kernel_rfl) ⟨⟨_, kpt_drew _ U 1⟩, rfl⟩ ?_
  simp only [wpSchL, pickO, consO, List.getElem?_toArray, List.getElem?_cons_succ, List.getElem?_cons_zero]
  repeat (first | go_big_quiet_skip | (go_big_quiet_want; go_big_quiet_op; go_big_quiet_on))
  refine wpQuiet_nil ?_
  go_wp2_with fail
  refine (copy_3 (HMU.out.drewN 1) x.ss o c HRO.out HSZ.out hfo hln hN).mono ?_
  rintro r V ⟨v, F, rfl, hn, hmV, hkV⟩
  obtain ⟨oa, ca, rfl⟩ := hn.form
  have hgV : V.heap[g]? = some (.cells arr T (0, 0)) := (hkV.block g (.inr hg)).trans HGU.out
  go_wp2
  refine ⟨⟨⟨V, ⟨hkV.os, hkV.tape, hkV.output, hkV.size, fun b hb => by rw [hb]; exact hkV.block g (.inr hg)⟩⟩, rfl⟩, ?_⟩
  repeat (first | go_big_quiet_skip | (go_big_quiet_want; go_big_quiet_op; go_big_quiet_on))
  refine wpQuiet_nil ?_
  have u3 := cell_of hgV (p + 1)
  rw [Q1.out] at u3
  have fu2 := frozen_of hgV (p + 1)
  obtain ⟨U1, hU1⟩ : ∃ W, V.setCell ⟨g, p + 1, none⟩ (.slice oa x.ss.length ca) = W := ⟨_, rfl⟩
  have hmU1 := hmV.set (j := p + 1) (v := .slice oa x.ss.length ca) hg
  have hgU1 := heap_set_same (j := p + 1) (.slice oa x.ss.length ca) hgV
  have hks := Mv.set g (p + 1) V (.slice oa x.ss.length ca)
  rw [hU1] at hmU1 hgU1 hks
  have HXU1 : Hid (Keeps (fun b => b < w0.heap.size ∨ (b ∈ X ∧ b ≠ g)) w U1) := HXU.out.trans ⟨hks.os.trans hkV.os, hks.tape.trans hkV.tape, hks.output.trans hkV.output, Nat.le_trans hkV.size hks.size, fun b hb => by
    have hbV : b < V.heap.size ∧ b ≠ g := by
      rcases hb with hb | hb
      · have := hmV.size
        have := (hmV.x_lt hg).1
        exact ⟨by omega, by omega⟩
      · exact ⟨(hmV.x_lt hb.1).2, hb.2⟩
    exact (hks.block b hbV).trans (hkV.block b (hb.imp id fun h => h.1))⟩
  have HN := hide hn
  have HEX := hide (exp_any hmU1 hg (p := p + 2) hgU1 h e ce HCE.out (fun j u hj => by
    rw [Array.set!_eq_setIfInBounds, Array.getElem?_setIfInBounds, if_neg (by omega)]
    have h9 := HAT.out (2 + j) u (by rw [List.getElem?_append_right (by simp)]; simpa using hj)
    rw [show p + 2 + j = p + (2 + j) by omega]
    exact h9) hw hE hD hA)
  clear hmV hkV hgV hgU1 hks hn s3 hne3 HXU HMU HGU hmU1
  go_wp2_with fail
  refine HEX.out.mono ?_
  rintro r V3 ⟨rfl, v1, v2, v3, F1, F2, F3, hn1, hn2, hn3, hm3, hg3, hk3⟩
  have HFIN := hide (And.intro hn1 (And.intro hn2 (And.intro hn3 (And.intro hm3 (And.intro hg3 (HXU1.out.trans hk3))))))
  clear hn1 hn2 hn3 hm3 hg3 hk3 HEX
  go_wp2
  go_end0
  exact ⟨rfl, _, v1, v2, v3, F, F1, F2, F3, HN.out, HFIN.out.1, HFIN.out.2.1, HFIN.out.2.2.1, HFIN.out.2.2.2.1, HFIN.out.2.2.2.2.1, HFIN.out.2.2.2.2.2⟩
end Go.Proofs.Ytgeckgdmkjddpaa.Cp
namespace Go.Proofs.Ytgeckgdmkjddpaa.Cp
open Go.ChangeShapes Go.WideShapes Go.ChangeAt Go.RowKit Go.Proofs.Ytgeckgdmkjddpaa.Vo Go.Proofs.Ytgeckgdmkjddpaa.Rd Go.Proofs.Ytgeckgdmkjddpaa.Br
set_option linter.unusedVariables false

/-- The cells of an expression that is empty. -/
def ze : List Value := [.int .i64 0, .string ⟨#[]⟩, .int .i64 0, .slice none 0 0, .slice none 0 0, .slice none 0 0]
def One2 (k : Int) (t : ByteArray) (v4 : Value) (w : World) (e : Ending) (w' : World) : Prop := ∃ g, w.heap.size ≤ g ∧ g < w'.heap.size ∧ e = .returned (.agg #[.int .i64 k, .string t, .int .i64 0, .slice (some ⟨g, 0, none⟩) 1 1, v4, .slice none 0 0]) ∧ w'.heap[g]? = some (.cells ze.toArray 32 (0, 0)) ∧ Below w.heap.size w w'
theorem old_at2 {w : World} {g : Nat} {o v : Obj} (h : w.heap[g]? = some o) : (w.alloc v).heap[g]? = some o := (Below.heap_alloc w v _ (heap_lt h)).trans h
set_option maxHeartbeats 4000000 in
set_option maxRecDepth 100000 in
theorem lamE_any (t : ByteArray) (w : World) : Calls Try.prog 114 #[.agg #[.string t, .int .i64 0, .string ⟨#[]⟩, .int .i64 0, .slice none 0 0, .slice none 0 0, .slice none 0 0]] w (One2 5 t (.slice none 0 0) w) := by
  go_enter Try.func114, Try.ntmps114
  go_wp2
  refine bodyPost_ret (v := .agg #[.int .i64 5, .string t, .int .i64 0, .slice (some ⟨w.heap.size + 1 + 1, 0, none⟩) 1 1, .slice none 0 0, .slice none 0 0]) ?_ rfl ?_
  · refine results_cell_row rfl _ _ (w.heap.size + 1) 32 _ (0, 0) _ rfl (old_at2 ?_) Try.underlying32 rfl (by kernel_rfl)
    have h9 := heap_alloc_new (w.alloc (.cells #[.string t, .int .i64 0, .string ⟨#[]⟩, .int .i64 0, .slice none 0 0, .slice none 0 0, .slice none 0 0] 138)) (.cells #[.int .i64 5, .string t, .int .i64 0, .slice (some ⟨w.heap.size + 1 + 1, 0, none⟩) 1 1, .slice none 0 0, .slice none 0 0] 32)
    simpa using h9
  · refine ⟨w.heap.size + 1 + 1, by omega, by simp, rfl, ?_, (((Below.refl _ w).alloc (Nat.le_refl _) _).alloc (by simp) _).alloc (by simp; omega) _⟩
    have h9 := heap_alloc_new ((w.alloc (.cells #[.string t, .int .i64 0, .string ⟨#[]⟩, .int .i64 0, .slice none 0 0, .slice none 0 0, .slice none 0 0] 138)).alloc (.cells #[.int .i64 5, .string t, .int .i64 0, .slice (some ⟨w.heap.size + 1 + 1, 0, none⟩) 1 1, .slice none 0 0, .slice none 0 0] 32)) (.cells #[.int .i64 0, .string ⟨#[]⟩, .int .i64 0, .slice none 0 0, .slice none 0 0, .slice none 0 0] 32)
    simpa [ze] using h9
set_option maxHeartbeats 4000000 in
set_option maxRecDepth 100000 in
theorem letE_any (o : Option Addr) (n c : Nat) (w : World) : Calls Try.prog 115 #[.agg #[.slice o n c, .int .i64 0, .string ⟨#[]⟩, .int .i64 0, .slice none 0 0, .slice none 0 0, .slice none 0 0]] w (One2 6 ⟨#[]⟩ (.slice o n c) w) := by
  go_enter Try.func115, Try.ntmps115
  go_wp2
  refine bodyPost_ret (v := .agg #[.int .i64 6, .string ⟨#[]⟩, .int .i64 0, .slice (some ⟨w.heap.size + 1 + 1, 0, none⟩) 1 1, .slice o n c, .slice none 0 0]) ?_ rfl ?_
  · refine results_cell_row rfl _ _ (w.heap.size + 1) 32 _ (0, 0) _ rfl (old_at2 ?_) Try.underlying32 rfl (by kernel_rfl)
    have h9 := heap_alloc_new (w.alloc (.cells #[.slice o n c, .int .i64 0, .string ⟨#[]⟩, .int .i64 0, .slice none 0 0, .slice none 0 0, .slice none 0 0] 140)) (.cells #[.int .i64 6, .string ⟨#[]⟩, .int .i64 0, .slice (some ⟨w.heap.size + 1 + 1, 0, none⟩) 1 1, .slice o n c, .slice none 0 0] 32)
    simpa using h9
  · refine ⟨w.heap.size + 1 + 1, by omega, by simp, rfl, ?_, (((Below.refl _ w).alloc (Nat.le_refl _) _).alloc (by simp) _).alloc (by simp; omega) _⟩
    have h9 := heap_alloc_new ((w.alloc (.cells #[.slice o n c, .int .i64 0, .string ⟨#[]⟩, .int .i64 0, .slice none 0 0, .slice none 0 0, .slice none 0 0] 140)).alloc (.cells #[.int .i64 6, .string ⟨#[]⟩, .int .i64 0, .slice (some ⟨w.heap.size + 1 + 1, 0, none⟩) 1 1, .slice o n c, .slice none 0 0] 32)) (.cells #[.int .i64 0, .string ⟨#[]⟩, .int .i64 0, .slice none 0 0, .slice none 0 0, .slice none 0 0] 32)
    simpa [ze] using h9
/-- Six cells set, from p on. -/
def put6 (arr : Array Value) (p : Nat) (a0 a1 a2 a3 a4 a5 : Value) : Array Value := (((((arr.set! p a0).set! (p + 1) a1).set! (p + 2) a2).set! (p + 3) a3).set! (p + 4) a4).set! (p + 5) a5
def set6 (w : World) (g p : Nat) (a0 a1 a2 a3 a4 a5 : Value) : World := (((((w.setCell ⟨g, p, none⟩ a0).setCell ⟨g, p + 1, none⟩ a1).setCell ⟨g, p + 2, none⟩ a2).setCell ⟨g, p + 3, none⟩ a3).setCell ⟨g, p + 4, none⟩ a4).setCell ⟨g, p + 5, none⟩ a5
theorem set6_at {w : World} {g p : Nat} {arr : Array Value} {T : TypeId} (h : w.heap[g]? = some (.cells arr T (0, 0))) (a0 a1 a2 a3 a4 a5 : Value) : (set6 w g p a0 a1 a2 a3 a4 a5).heap[g]? = some (.cells (put6 arr p a0 a1 a2 a3 a4 a5) T (0, 0)) :=
  heap_set_same _ (heap_set_same _ (heap_set_same _ (heap_set_same _ (heap_set_same _ (heap_set_same _ h)))))
theorem set6_keeps (w : World) (g p : Nat) (a0 a1 a2 a3 a4 a5 : Value) : Keeps (fun k => k ≠ g) w (set6 w g p a0 a1 a2 a3 a4 a5) := by
  unfold set6
  exact (((((keeps_set w g p a0 (fun h => h rfl)).trans (keeps_set _ g _ a1 (fun h => h rfl))).trans (keeps_set _ g _ a2 (fun h => h rfl))).trans (keeps_set _ g _ a3 (fun h => h rfl))).trans (keeps_set _ g _ a4 (fun h => h rfl))).trans (keeps_set _ g _ a5 (fun h => h rfl))
theorem put6_get {arr : Array Value} {p : Nat} (hp : p + 5 < arr.size) (a0 a1 a2 a3 a4 a5 : Value) : (∀ (j : Nat) u, [a0, a1, a2, a3, a4, a5][j]? = some u → (put6 arr p a0 a1 a2 a3 a4 a5)[p + j]? = some u) ∧ (∀ k, k < p ∨ p + 5 < k → (put6 arr p a0 a1 a2 a3 a4 a5)[k]? = arr[k]?) ∧ (put6 arr p a0 a1 a2 a3 a4 a5).size = arr.size := by
  unfold put6
  simp only [Array.set!_eq_setIfInBounds]
  refine ⟨fun j u hj => ?_, fun k hk => ?_, by simp⟩
  · have hj6 : j < 6 := (List.getElem?_eq_some_iff.1 hj).1
    have hc : j = 0 ∨ j = 1 ∨ j = 2 ∨ j = 3 ∨ j = 4 ∨ j = 5 := by omega
    rcases hc with rfl | rfl | rfl | rfl | rfl | rfl <;> simp at hj <;> subst hj <;> simp [Array.getElem?_setIfInBounds] <;> omega
  · simp only [Array.getElem?_setIfInBounds]
    rw [if_neg (by omega), if_neg (by omega), if_neg (by omega), if_neg (by omega), if_neg (by omega), if_neg (by omega)]
/-- What putAround comes to. -/
def Put (k : Int) (t : ByteArray) (v4 : Value) (g p : Nat) (arr : Array Value) (T : TypeId) (w : World) (e : Ending) (w' : World) : Prop := ∃ r, w.heap.size ≤ r ∧ r < w'.heap.size ∧ e = .returned (.pointer (some ⟨r, 0, none⟩)) ∧ w'.heap[g]? = some (.cells (put6 arr p (.int .i64 k) (.string t) (.int .i64 0) (.slice (some ⟨r, 0, none⟩) 1 1) v4 (.slice none 0 0)) T (0, 0)) ∧ w'.heap[r]? = some (.cells ze.toArray 32 (0, 0)) ∧ Mv g w w'

set_option maxHeartbeats 4000000 in
set_option maxRecDepth 100000 in
theorem putLam (t : ByteArray) {w : World} {g p : Nat} {arr : Array Value} {T : TypeId} (hbk : w.heap[g]? = some (.cells arr T (0, 0))) (hp : p + 5 < arr.size) :
    Calls Try.prog 62 #[.pointer (some ⟨g, p, none⟩), .iface 138 (.agg #[.string t, .int .i64 0, .string ⟨#[]⟩, .int .i64 0, .slice none 0 0, .slice none 0 0, .slice none 0 0])] w (Put 5 t (.slice none 0 0) g p arr T w) := by
  have HBK := hide hbk
  have hmd : ∀ w : World, (method 307 138 (.agg #[.string t, .int .i64 0, .string ⟨#[]⟩, .int .i64 0, .slice none 0 0, .slice none 0 0, .slice none 0 0]) "loop.example/g00471/impl.exp").run Try.prog w = .ok (114, (.agg #[.string t, .int .i64 0, .string ⟨#[]⟩, .int .i64 0, .slice none 0 0, .slice none 0 0, .slice none 0 0])) w := fun _ => by kernel_rfl
  clear hbk
  go_enter Try.func62, Try.ntmps62
  go_wp2_with fail
  first | refine ⟨trivial, (fun h => by cases h), ?_⟩ | refine ⟨(fun h => by cases h), ?_⟩ | refine ⟨trivial, ?_⟩ | skip
  refine (lamE_any t w).mono ?_
  rintro e w1 ⟨r, hr1, hr2, rfl, hr3, hb⟩
  have hg1 : w1.heap[g]? = some (.cells arr T (0, 0)) := (hb.block _ (heap_lt HBK.out)).trans HBK.out
  have hgl := heap_lt HBK.out
  have HR3 := hide hr3
  have HB := hide hb
  have HG1 := hide hg1
  have x0 := cell_of hg1 p
  have x1 := cell_of hg1 (p + 1)
  have x2 := cell_of hg1 (p + 2)
  have x3 := cell_of hg1 (p + 3)
  have x4 := cell_of hg1 (p + 4)
  have x5 := cell_of hg1 (p + 5)
  rw [Array.getElem?_eq_getElem (by omega)] at x0 x1 x2 x3 x4 x5
  have f0 := frozen_of hg1 p
  have f1 := frozen_of hg1 (p + 1)
  have f2 := frozen_of hg1 (p + 2)
  have f3 := frozen_of hg1 (p + 3)
  have f4 := frozen_of hg1 (p + 4)
  have f5 := frozen_of hg1 (p + 5)
  clear hr3 hb hg1
  go_wp2
  go_ret
  refine ⟨r, hr1, by simpa using hr2, rfl, set6_at HG1.out _ _ _ _ _ _, ?_, ?_⟩
  · have hks := set6_keeps w1 g p (.int .i64 5) (.string t) (.int .i64 0) (.slice (some ⟨r, 0, none⟩) 1 1) (.slice none 0 0) (.slice none 0 0)
    exact (hks.block r (by show r ≠ g; omega)).trans HR3.out
  · have hks := set6_keeps w1 g p (.int .i64 5) (.string t) (.int .i64 0) (.slice (some ⟨r, 0, none⟩) 1 1) (.slice none 0 0) (.slice none 0 0)
    exact ⟨hks.os.trans HB.out.os, hks.tape.trans HB.out.tape, hks.output.trans HB.out.output, Nat.le_trans HB.out.size hks.size, fun b hb2 => (hks.block b hb2.2).trans (HB.out.block b hb2.1)⟩

set_option maxHeartbeats 4000000 in
set_option maxRecDepth 100000 in
theorem putLet (o : Option Addr) (n c : Nat) {w : World} {g p : Nat} {arr : Array Value} {T : TypeId} (hbk : w.heap[g]? = some (.cells arr T (0, 0))) (hp : p + 5 < arr.size) :
    Calls Try.prog 62 #[.pointer (some ⟨g, p, none⟩), .iface 140 (.agg #[.slice o n c, .int .i64 0, .string ⟨#[]⟩, .int .i64 0, .slice none 0 0, .slice none 0 0, .slice none 0 0])] w (Put 6 ⟨#[]⟩ (.slice o n c) g p arr T w) := by
  have HBK := hide hbk
  have hmd : ∀ w : World, (method 307 140 (.agg #[.slice o n c, .int .i64 0, .string ⟨#[]⟩, .int .i64 0, .slice none 0 0, .slice none 0 0, .slice none 0 0]) "loop.example/g00471/impl.exp").run Try.prog w = .ok (115, (.agg #[.slice o n c, .int .i64 0, .string ⟨#[]⟩, .int .i64 0, .slice none 0 0, .slice none 0 0, .slice none 0 0])) w := fun _ => by kernel_rfl
  clear hbk
  go_enter Try.func62, Try.ntmps62
  go_wp2_with fail
  first | refine ⟨trivial, (fun h => by cases h), ?_⟩ | refine ⟨(fun h => by cases h), ?_⟩ | refine ⟨trivial, ?_⟩ | skip
  refine (letE_any o n c w).mono ?_
  rintro e w1 ⟨r, hr1, hr2, rfl, hr3, hb⟩
  have hg1 : w1.heap[g]? = some (.cells arr T (0, 0)) := (hb.block _ (heap_lt HBK.out)).trans HBK.out
  have hgl := heap_lt HBK.out
  have HR3 := hide hr3
  have HB := hide hb
  have HG1 := hide hg1
  have x0 := cell_of hg1 p
  have x1 := cell_of hg1 (p + 1)
  have x2 := cell_of hg1 (p + 2)
  have x3 := cell_of hg1 (p + 3)
  have x4 := cell_of hg1 (p + 4)
  have x5 := cell_of hg1 (p + 5)
  rw [Array.getElem?_eq_getElem (by omega)] at x0 x1 x2 x3 x4 x5
  have f0 := frozen_of hg1 p
  have f1 := frozen_of hg1 (p + 1)
  have f2 := frozen_of hg1 (p + 2)
  have f3 := frozen_of hg1 (p + 3)
  have f4 := frozen_of hg1 (p + 4)
  have f5 := frozen_of hg1 (p + 5)
  clear hr3 hb hg1
  go_wp2
  go_ret
  refine ⟨r, hr1, by simpa using hr2, rfl, set6_at HG1.out _ _ _ _ _ _, ?_, ?_⟩
  · have hks := set6_keeps w1 g p (.int .i64 6) (.string ⟨#[]⟩) (.int .i64 0) (.slice (some ⟨r, 0, none⟩) 1 1) (.slice o n c) (.slice none 0 0)
    exact (hks.block r (by show r ≠ g; omega)).trans HR3.out
  · have hks := set6_keeps w1 g p (.int .i64 6) (.string ⟨#[]⟩) (.int .i64 0) (.slice (some ⟨r, 0, none⟩) 1 1) (.slice o n c) (.slice none 0 0)
    exact ⟨hks.os.trans HB.out.os, hks.tape.trans HB.out.tape, hks.output.trans HB.out.output, Nat.le_trans HB.out.size hks.size, fun b hb2 => (hks.block b hb2.2).trans (HB.out.block b hb2.1)⟩
end Go.Proofs.Ytgeckgdmkjddpaa.Cp

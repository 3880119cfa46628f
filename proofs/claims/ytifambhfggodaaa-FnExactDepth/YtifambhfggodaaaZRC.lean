/- The law's copy of types, makers, datas and programs. -/
import Derived.Test.YtifambhfggodaaaZRB
namespace Go.Proofs.Ytifambhfggodaaa
open Go.ChangeShapes Go.WideShapes Go.ChangeAt Go.RowKit

def ToTy (h : Nat) : Prop := ∀ (x : Tr) (cs : List Value) (w : World), tyR AllK w h x cs → wty h x ≤ 1048576 → Calls Try.prog 6 #[.agg cs.toArray] w fun e w' => ∃ cs', e = .returned (.agg cs'.toArray) ∧ cs'.length = 4 ∧ tyR (FromK w.heap.size) w' h x cs' ∧ Below w.heap.size w w' ∧ Plain w w'
theorem info_Ty : (Try.prog.info? 29).map (fun i => (i.zero, i.size, i.bytes)) = some (some (.agg #[.int .i64 0, .string ⟨#[]⟩, .int .i64 0, .slice none 0 0]), 4, 56) := by kernel_rfl
theorem make_Ty (n : Nat) (hn : n ≤ 1048576) (w : World) : (Instr.makeSlice 27 (.int .i64 (n : Int)) (.int .i64 (n : Int))).run Try.prog w = .ok (.slice (some ⟨w.heap.size, 0, none⟩) n n) (w.alloc (.cells (madeCells #[.int .i64 0, .string ⟨#[]⟩, .int .i64 0, .slice none 0 0] (n * 4)) 29)) := by
  obtain ⟨i0, hi, hz0, hz1, hz2⟩ := info_parts info_Ty
  have hr := run_make (P := Try.prog) w 27 29 i0 _ Try.underlying27 hi hz0 .i64 .i64 n n (by omega) (Int.le_refl _) (by rw [hz2]; omega) (by omega)
  rw [hz1, Int.toNat_natCast] at hr
  exact hr

set_option maxHeartbeats 800000 in
set_option maxRecDepth 100000 in
theorem toTyS_of {h : Nat} (hE : ToTy h) (xs : List Tr) (o : Option Addr) (cap : Nat) (w : World) (hl : lw (wty h) xs ≤ 1048576) (hm : RowOf AllK w (tyR AllK w h) 4 o xs) :
    Calls Try.prog 10 #[.slice o xs.length cap] w fun e w' => ∃ o' c', e = .returned (.slice o' xs.length c') ∧ xs.length ≤ c' ∧ RowOf (FromK w.heap.size) w' (tyR (FromK w.heap.size) w' h) 4 o' xs ∧ Below w.heap.size w w' ∧ Plain w w' := by
  have HM := hide hm
  have HE := hide hE
  have HL := hide hl
  have hl2 : xs.length ≤ 1048576 := by unfold lw at hl; omega
  clear hm hE hl
  have hmk := make_Ty xs.length hl2
  go_enter Try.func10, Try.ntmps10
  go_wp2
  clear hmk
  go_loopw [4] (fun t4 wr => ∃ (i : Nat) (cur : Array Value), i ≤ xs.length ∧ t4 = .int .i64 i ∧ wr.heap[w.heap.size]? = some (.cells cur 29 (0, 0)) ∧ cur.size = xs.length * 4 ∧ Filled (tyR (FromK (w.heap.size + 1)) wr h) 4 cur (xs.take i) ∧ Below w.heap.size w wr ∧ Plain w wr) (fun t4 _ => xs.length - (intOf t4).toNat)
  case atStart => exact ⟨0, _, Nat.zero_le _, rfl, heap_alloc_new w _, by rw [size_madeCells], Filled.nil _ _ _, (Below.refl _ w).alloc (Nat.le_refl _) _, (Plain.refl w).alloc _ _⟩
  case round =>
    obtain ⟨i, cur, hi, rfl, hcur, hsz, hfl, hbw, hpl⟩ := hrel
    have HPL := hide hpl
    clear hpl
    have HC := hide hcur
    have HF := hide hfl
    have HBW := hide hbw
    have HSZ := hide hsz
    clear hcur hfl hbw hsz
    by_cases hlt : i < xs.length
    · have hne : xs ≠ [] := by intro e; rw [e] at hlt; simp at hlt
      obtain ⟨x, hx⟩ : ∃ x, xs[i]? = some x := ⟨xs[i], List.getElem?_eq_getElem hlt⟩
      obtain ⟨b, off, eo, -, hbl, hcs⟩ := (HM.out.later HBW.out fun _ _ h => h) hne
      subst eo
      obtain ⟨cs, hlen, hkey, hrd⟩ := hcs i x hx
      obtain ⟨v0, v1, v2, v3, rfl⟩ := four_of hlen
      have q0 := hkey 0 v0 rfl
      have q1 := hkey 1 v1 rfl
      have q2 := hkey 2 v2 rfl
      have q3 := hkey 3 v3 rfl
      rw [Nat.add_zero] at q0
      have HX := hide hx
      have HRD := hide (tyR_later HBW.out h x _ hrd)
      have HWT : Hid (wty h x ≤ 1048576) := by
        have h1 := le_sum (wty h) xs x (List.mem_of_getElem? hx)
        have h2 := HL.out
        unfold lw at h2
        exact (by omega : wty h x ≤ 1048576)
      clear hcs hx hne hkey hlen hrd
      have hlt2 : (i : Int) < xs.length := by omega
      have hw : w.heap.size < wr.heap.size := heap_lt HC.out
      go_wp2_with fail
      refine (HE.out x _ _ HRD.out HWT.out).mono ?_
      rintro e w1 ⟨cs', rfl, hlen', hrd', hb1, hpl1⟩
      obtain ⟨p1, d1, rfl⟩ := ty_form hrd'
      have HB1 := hide hb1
      have HP1 := hide (HPL.out.on hpl1 hb1)
      clear hpl1
      have HRD1 := hide hrd'
      have HC1 := hide ((hb1.block w.heap.size hw).trans HC.out)
      clear hb1 hrd' hlen'
      have s0 := cell_of HC1.out (i * 4)
      have s1 := cell_of HC1.out (i * 4 + 1)
      have s2 := cell_of HC1.out (i * 4 + 2)
      have s3 := cell_of HC1.out (i * 4 + 3)
      rw [Array.getElem?_eq_getElem (by rw [HSZ.out]; omega)] at s0 s1 s2 s3
      have f0 := frozen_of HC1.out (i * 4)
      have f1 := frozen_of HC1.out (i * 4 + 1)
      have f2 := frozen_of HC1.out (i * 4 + 2)
      have f3 := frozen_of HC1.out (i * 4 + 3)
      go_wp2
      refine ⟨⟨i + 1, _, by omega, by go_num, heap_set_same _ (heap_set_same _ (heap_set_same _ (heap_set_same _ HC1.out))), by simpa using HSZ.out, ?_, ?_, (((HP1.out.set _ _ _).set _ _ _).set _ _ _).set _ _ _⟩, by simp [intOf]; omega⟩
      · have no : ¬ FromK (w.heap.size + 1) w.heap.size := fun h => by have h2 : w.heap.size + 1 ≤ w.heap.size := h; omega
        have st := (((stays_set (FromK (w.heap.size + 1)) w1 w.heap.size (i * 4) (.int .i64 x.k) no).trans (stays_set _ _ _ (i * 4 + 1) (.string x.s) no)).trans (stays_set _ _ _ (i * 4 + 2) (.int .i64 x.n) no)).trans (stays_set _ _ _ (i * 4 + 3) (.slice p1 x.l.length d1) no)
        have sw := (Stays.of (K := FromK (w.heap.size + 1)) HB1.out).trans st
        have key := HF.out.snoc (cs := [.int .i64 x.k, .string x.s, .int .i64 x.n, .slice p1 x.l.length d1]) (tyR_frame sw (fun _ h => h) h) HX.out rfl HSZ.out (tyR_frame st (fun _ h => h) h _ _ (tyR_frame (Stays.refl _ _) (fun b (hb : wr.heap.size ≤ b) => (by show w.heap.size + 1 ≤ b; omega)) h _ _ HRD1.out))
        exact key
      · have h1 := HBW.out.trans (HB1.out.mono HBW.out.size)
        exact (((h1.setCell (Nat.le_refl _) _).setCell (Nat.le_refl _) _).setCell (Nat.le_refl _) _).setCell (Nat.le_refl _) _
    · go_wp2
      go_ret
      have hie : i = xs.length := by omega
      subst hie
      have key := HF.out
      rw [List.take_length] at key
      refine ⟨_, _, rfl, Nat.le_refl _, RowOf.frame (K := FromK w.heap.size) (key.row HC.out (Nat.le_refl _)) (Stays.refl _ _) (fun _ h => h) (fun x cs hx => ?_), HBW.out, HPL.out⟩
      exact tyR_frame (Stays.refl _ _) (fun b (hb : w.heap.size + 1 ≤ b) => (by show w.heap.size ≤ b; omega)) h _ _ hx

set_option maxHeartbeats 500000 in
set_option maxRecDepth 100000 in
theorem toTy_step {h : Nat} (i1 : ToTy h) : ToTy (h + 1) := by
  intro x cs w hrd hwt
  obtain ⟨z1, z2, z3, o1, c1, rfl, hs, hl, q1⟩ := hrd
  have HWT : Hid (x.s.size + lw (wty h) x.l ≤ 1048576) := hwt
  have I1 := hide i1
  have Q1 := hide q1
  have HL4 := hide (And.intro hs hl)
  have HZ := hide (And.intro z1 (And.intro z2 (z3)))
  clear i1 q1 hwt hs hl z1 z2 z3
  have HX0 : Hid ((((w.alloc (.cells #[.int .i64 x.k, .string x.s, .int .i64 x.n, .slice o1 x.l.length c1] 24)).alloc (.cells #[.int .i64 0, .string ⟨#[]⟩, .int .i64 0, .slice none 0 0] 29)).alloc (.cells #[.int .i64 x.k, .string x.s, .int .i64 x.n, .slice none 0 0] 29)).heap[w.heap.size]? = some (.cells #[.int .i64 x.k, .string x.s, .int .i64 x.n, .slice o1 x.l.length c1] 24 (0, 0))) := (heap_alloc3_new w _ _ _).1
  have HR0 : Hid ((((w.alloc (.cells #[.int .i64 x.k, .string x.s, .int .i64 x.n, .slice o1 x.l.length c1] 24)).alloc (.cells #[.int .i64 0, .string ⟨#[]⟩, .int .i64 0, .slice none 0 0] 29)).alloc (.cells #[.int .i64 x.k, .string x.s, .int .i64 x.n, .slice none 0 0] 29)).heap[w.heap.size + 1]? = some (.cells #[.int .i64 0, .string ⟨#[]⟩, .int .i64 0, .slice none 0 0] 29 (0, 0))) := (heap_alloc3_new w _ _ _).2.1
  have HO0 : Hid ((((w.alloc (.cells #[.int .i64 x.k, .string x.s, .int .i64 x.n, .slice o1 x.l.length c1] 24)).alloc (.cells #[.int .i64 0, .string ⟨#[]⟩, .int .i64 0, .slice none 0 0] 29)).alloc (.cells #[.int .i64 x.k, .string x.s, .int .i64 x.n, .slice none 0 0] 29)).heap[w.heap.size + 2]? = some (.cells #[.int .i64 x.k, .string x.s, .int .i64 x.n, .slice none 0 0] 29 (0, 0))) := (heap_alloc3_new w _ _ _).2.2
  have HB0 : Hid (Below w.heap.size w (((w.alloc (.cells #[.int .i64 x.k, .string x.s, .int .i64 x.n, .slice o1 x.l.length c1] 24)).alloc (.cells #[.int .i64 0, .string ⟨#[]⟩, .int .i64 0, .slice none 0 0] 29)).alloc (.cells #[.int .i64 x.k, .string x.s, .int .i64 x.n, .slice none 0 0] 29))) := (((Below.refl _ w).alloc (Nat.le_refl _) _).alloc (by simp) _).alloc (by simp; omega) _
  have hz0 : w.heap.size + 3 ≤ (((w.alloc (.cells #[.int .i64 x.k, .string x.s, .int .i64 x.n, .slice o1 x.l.length c1] 24)).alloc (.cells #[.int .i64 0, .string ⟨#[]⟩, .int .i64 0, .slice none 0 0] 29)).alloc (.cells #[.int .i64 x.k, .string x.s, .int .i64 x.n, .slice none 0 0] 29)).heap.size := by simp
  have HPL0 : Hid (Plain w (((w.alloc (.cells #[.int .i64 x.k, .string x.s, .int .i64 x.n, .slice o1 x.l.length c1] 24)).alloc (.cells #[.int .i64 0, .string ⟨#[]⟩, .int .i64 0, .slice none 0 0] 29)).alloc (.cells #[.int .i64 x.k, .string x.s, .int .i64 x.n, .slice none 0 0] 29))) := (((Plain.refl w).alloc _ _).alloc _ _).alloc _ _
  go_enter Try.func6, Try.ntmps6
  go_wp2_with fail
  refine (toTyS_of I1.out x.l o1 c1 _ (by have := HWT.out; omega) (Q1.out.later HB0.out (tyR_later HB0.out h))).mono ?_
  rintro e w1 ⟨p1, d1, rfl, hcap1, hrw, hb, hpl⟩
  have HPL1' := hide (HPL0.out.on hpl hb)
  clear hpl
  have HBK1 := hide hb
  have HB1' := hide (HB0.out.trans (hb.mono HB0.out.size))
  have HX1' := hide ((hb.block (w.heap.size) (by omega)).trans HX0.out)
  have HR1' := hide ((hb.block (w.heap.size + 1) (by omega)).trans HR0.out)
  have HO1' := hide ((hb.block (w.heap.size + 2) (by omega)).trans HO0.out)
  have hz1' : w.heap.size + 3 ≤ w1.heap.size := Nat.le_trans hz0 hb.size
  have HRW1 := hide hrw
  clear hrw hb
  have s3_1 := cell_of HO1'.out 3
  have f3_1 := frozen_of HO1'.out 3
  have o0_1 := cell_of HO1'.out 0
  have r0_1 := cell_of HR1'.out 0
  have e0_1 := frozen_of HR1'.out 0
  have o1_1 := cell_of HO1'.out 1
  have r1_1 := cell_of HR1'.out 1
  have e1_1 := frozen_of HR1'.out 1
  have o2_1 := cell_of HO1'.out 2
  have r2_1 := cell_of HR1'.out 2
  have e2_1 := frozen_of HR1'.out 2
  have o3_1 := cell_of HO1'.out 3
  have r3_1 := cell_of HR1'.out 3
  have e3_1 := frozen_of HR1'.out 3
  simp only [List.getElem?_toArray, List.getElem?_cons_succ, List.getElem?_cons_zero] at s3_1 o0_1 o1_1 o2_1 o3_1 r0_1 r1_1 r2_1 r3_1
  have HX1 : Hid ((w1.setCell ⟨w.heap.size + 2, 3, none⟩ (.slice p1 x.l.length d1)).heap[w.heap.size]? = some (.cells #[.int .i64 x.k, .string x.s, .int .i64 x.n, .slice o1 x.l.length c1] 24 (0, 0))) := (heap_set_other _ (by omega)).trans (HX1'.out)
  have HR1 : Hid ((w1.setCell ⟨w.heap.size + 2, 3, none⟩ (.slice p1 x.l.length d1)).heap[w.heap.size + 1]? = some (.cells #[.int .i64 0, .string ⟨#[]⟩, .int .i64 0, .slice none 0 0] 29 (0, 0))) := (heap_set_other _ (by omega)).trans (HR1'.out)
  have HO1 : Hid ((w1.setCell ⟨w.heap.size + 2, 3, none⟩ (.slice p1 x.l.length d1)).heap[w.heap.size + 2]? = some (.cells #[.int .i64 x.k, .string x.s, .int .i64 x.n, .slice p1 x.l.length d1] 29 (0, 0))) := heap_set_same _ (HO1'.out)
  have HB1 : Hid (Below w.heap.size w (w1.setCell ⟨w.heap.size + 2, 3, none⟩ (.slice p1 x.l.length d1))) := (HB1'.out.setCell (Nat.le_add_right _ _) _)
  have hz1 : w.heap.size + 3 ≤ (w1.setCell ⟨w.heap.size + 2, 3, none⟩ (.slice p1 x.l.length d1)).heap.size := by simpa using hz1'
  have HPL1 : Hid (Plain w (w1.setCell ⟨w.heap.size + 2, 3, none⟩ (.slice p1 x.l.length d1))) := (HPL1'.out.set _ _ _)
  have HS1 : Hid (Stays (FromK (w.heap.size + 3)) w1 (w1.setCell ⟨w.heap.size + 2, 3, none⟩ (.slice p1 x.l.length d1))) := (stays_from _ (w.heap.size + 2) 3 (.slice p1 x.l.length d1) (by omega) rfl)
  have HRF0 : Hid (((w1.setCell ⟨w.heap.size + 2, 3, none⟩ (.slice p1 x.l.length d1)).setCell ⟨w.heap.size + 1, 0, none⟩ (.int .i64 x.k)).heap[w.heap.size + 1]? = some (.cells #[.int .i64 x.k, .string ⟨#[]⟩, .int .i64 0, .slice none 0 0] 29 (0, 0))) := heap_set_same _ HR1.out
  have HRF1 : Hid ((((w1.setCell ⟨w.heap.size + 2, 3, none⟩ (.slice p1 x.l.length d1)).setCell ⟨w.heap.size + 1, 0, none⟩ (.int .i64 x.k)).setCell ⟨w.heap.size + 1, 1, none⟩ (.string x.s)).heap[w.heap.size + 1]? = some (.cells #[.int .i64 x.k, .string x.s, .int .i64 0, .slice none 0 0] 29 (0, 0))) := heap_set_same _ HRF0.out
  have HRF2 : Hid (((((w1.setCell ⟨w.heap.size + 2, 3, none⟩ (.slice p1 x.l.length d1)).setCell ⟨w.heap.size + 1, 0, none⟩ (.int .i64 x.k)).setCell ⟨w.heap.size + 1, 1, none⟩ (.string x.s)).setCell ⟨w.heap.size + 1, 2, none⟩ (.int .i64 x.n)).heap[w.heap.size + 1]? = some (.cells #[.int .i64 x.k, .string x.s, .int .i64 x.n, .slice none 0 0] 29 (0, 0))) := heap_set_same _ HRF1.out
  have HRF3 : Hid ((((((w1.setCell ⟨w.heap.size + 2, 3, none⟩ (.slice p1 x.l.length d1)).setCell ⟨w.heap.size + 1, 0, none⟩ (.int .i64 x.k)).setCell ⟨w.heap.size + 1, 1, none⟩ (.string x.s)).setCell ⟨w.heap.size + 1, 2, none⟩ (.int .i64 x.n)).setCell ⟨w.heap.size + 1, 3, none⟩ (.slice p1 x.l.length d1)).heap[w.heap.size + 1]? = some (.cells #[.int .i64 x.k, .string x.s, .int .i64 x.n, .slice p1 x.l.length d1] 29 (0, 0))) := heap_set_same _ HRF2.out
  go_wp2
  have stw1 := Stays.trans (Stays.trans (Stays.trans (Stays.trans (HS1.out) (stays_from (w.heap.size + 3) (w.heap.size + 1) 0 (.int .i64 x.k) (by omega) rfl)) (stays_from (w.heap.size + 3) (w.heap.size + 1) 1 (.string x.s) (by omega) rfl)) (stays_from (w.heap.size + 3) (w.heap.size + 1) 2 (.int .i64 x.n) (by omega) rfl)) (stays_from (w.heap.size + 3) (w.heap.size + 1) 3 (.slice p1 x.l.length d1) (by omega) rfl)
  refine bodyPost_ret (v := .agg #[.int .i64 x.k, .string x.s, .int .i64 x.n, .slice p1 x.l.length d1]) ?_ rfl ?_
  · exact results_cell_row rfl _ _ (w.heap.size + 1) 29 _ (0, 0) _ rfl (HRF3.out) Try.underlying29 rfl (by kernel_rfl)
  · refine ⟨[.int .i64 x.k, .string x.s, .int .i64 x.n, .slice p1 x.l.length d1], rfl, rfl, ?_, ?_, ((((HPL1.out.set _ _ _).set _ _ _).set _ _ _).set _ _ _)⟩
    · skip
      have rw1 := HRW1.out.frame (stw1.less (FromK.up hz0)) (FromK.up (m := w.heap.size) (Nat.le_trans (Nat.le_add_right _ 3) hz0)) (tyR_frame (stw1.less (FromK.up hz0)) (FromK.up (m := w.heap.size) (Nat.le_trans (Nat.le_add_right _ 3) hz0)) h)
      exact ⟨HZ.out.1, HZ.out.2.1, HZ.out.2.2, p1, d1, rfl, HL4.out.1, ⟨HL4.out.2.1, hcap1⟩, rw1⟩
    · exact ((((HB1.out.setCell (Nat.le_add_right _ _) _).setCell (Nat.le_add_right _ _) _).setCell (Nat.le_add_right _ _) _).setCell (Nat.le_add_right _ _) _)

theorem toTy_all (h : Nat) : ToTy h := by
  induction h with
  | zero => exact fun _ _ _ hr => hr.elim
  | succ h ih => exact toTy_step ih

end Go.Proofs.Ytifambhfggodaaa

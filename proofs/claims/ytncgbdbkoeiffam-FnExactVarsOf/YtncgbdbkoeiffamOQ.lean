/- The law on VarsOf: its walk. -/
import Derived.Test.YtncgbdbkoeiffamOF
import Derived.Test.YtncgbdbkoeiffamON
import Derived.Test.YtncgbdbkoeiffamOO
import Derived.Test.YtncgbdbkoeiffamOP
namespace Go.Proofs.Ytncgbdbkoeiffam.Vo
open Go.ChangeShapes Go.WideShapes Go.ChangeAt Go.RowKit
open Nm (Mk markTy_any)
set_option linter.unusedVariables false

theorem tyR_in {K : Nat → Prop} (w : World) : ∀ h x cs, tyR K w h x cs → tyR (fun b => K b ∧ b < w.heap.size) w h x cs := by
  intro h
  induction h with
  | zero => exact fun _ _ h => h
  | succ h ih =>
    rintro x cs ⟨e1, e2, e3, o, c, e, hs, hf, hr⟩
    refine ⟨e1, e2, e3, o, c, e, hs, hf, fun hne => ?_⟩
    obtain ⟨b, off, rfl, hK, hb, hq⟩ := hr hne
    refine ⟨b, off, rfl, ⟨hK, hb⟩, hb, fun i t ht => ?_⟩
    obtain ⟨cs', l, hc, ht'⟩ := hq i t ht
    exact ⟨cs', l, hc, ih t cs' ht'⟩
theorem nz_wty : ∀ h x, nz h x ≤ 1 + wty h x := by
  intro h
  induction h with
  | zero => intro x; exact Nat.zero_le _
  | succ h ih =>
    intro x
    show 1 + (x.l.map (nz h)).sum ≤ 1 + (x.s.size + (x.l.length + (x.l.map (wty h)).sum))
    have key : ∀ l : List Tr, (l.map (nz h)).sum ≤ l.length + (l.map (wty h)).sum := by
      intro l
      induction l with
      | nil => simp
      | cons a r ihr =>
        have := ih a
        simp only [List.map_cons, List.sum_cons, List.length_cons]
        omega
    have := key x.l
    omega
theorem ORow.later {E : TypeId} {B : Nat} {w w' : World} {v : Value} {xs : List Value} (h : ORow E B w v xs) (hb : Below w.heap.size w w') : ORow E B w' v xs := h.keep fun g hg => hb.block g (Array.getElem?_eq_some_iff.1 (h.own hg).2.choose_spec).1
theorem ORow.lt {E : TypeId} {B : Nat} {w : World} {v : Value} {xs : List Value} (h : ORow E B w v xs) : ∀ g, v.ownBlock = some g → B ≤ g ∧ g < w.heap.size := fun g hg => ⟨(h.own hg).1, (Array.getElem?_eq_some_iff.1 (h.own hg).2.choose_spec).1⟩
set_option maxHeartbeats 2000000 in
set_option maxRecDepth 100000 in
theorem walk {h : Nat} (x : Tr) (cs : List Value) (w : World) (hr : tyR AllK w (h + 1) x cs) :
    Calls Try.prog 4 #[.agg cs.toArray] w fun e w' => e = .returned (.bool true) ∧ Below w.heap.size w w' := by
  obtain ⟨o1, c1, rfl⟩ := ty_form hr
  have HR := hide hr
  clear hr
  have HB0 : Hid (Below w.heap.size w (w.alloc (.cells #[.int .i64 x.k, .string x.s, .int .i64 x.n, .slice o1 x.l.length c1] 24))) := (Below.refl _ w).alloc (Nat.le_refl _) _
  have HX0 : Hid ((w.alloc (.cells #[.int .i64 x.k, .string x.s, .int .i64 x.n, .slice o1 x.l.length c1] 24)).heap[w.heap.size]? = some (.cells #[.int .i64 x.k, .string x.s, .int .i64 x.n, .slice o1 x.l.length c1] 24 (0, 0))) := heap_alloc_new w _
  go_enter Try.func4, Try.ntmps4
  go_wp2_with fail
  refine (szTy_all AllK (h + 1) x _ _ 1048576 (by omega) (by omega) (tyR_later HB0.out (h + 1) _ _ HR.out)).mono ?_
  rintro e w1 ⟨r, rfl, hr1, hr2, hb⟩
  have HW := hide hr2
  have HB1 := hide (HB0.out.trans (hb.mono HB0.out.size))
  have HX1 := hide ((hb.block w.heap.size (heap_lt HX0.out)).trans HX0.out)
  clear hr2 hb
  by_cases hr0 : r < 0
  · go_wp2
    go_ret
    exact ⟨rfl, HB1.out⟩
  have HWT : Hid (wty (h + 1) x ≤ 1048576) := by
    have h2 := HW.out (by omega)
    exact (by omega : wty (h + 1) x ≤ 1048576)
  have HNZ : Hid (nz (h + 1) x ≤ 1048577) := by
    have h2 := nz_wty (h + 1) x
    have h3 := HWT.out
    exact (by omega : nz (h + 1) x ≤ 1048577)
  obtain ⟨R, HRE⟩ : ∃ R, Hid (vz (h + 1) [] x = R) := ⟨_, rfl⟩
  have HRL : Hid (R.length ≤ 1048577) := by
    have h2 := vz_len (h + 1) x []
    rw [HRE.out] at h2
    have h3 := HNZ.out
    simp only [List.length_nil] at h2
    exact (by omega : R.length ≤ 1048577)
  have x0 := cell_of HX1.out 0
  have x1 := cell_of HX1.out 1
  have x2 := cell_of HX1.out 2
  have x3 := cell_of HX1.out 3
  simp only [List.getElem?_toArray, List.getElem?_cons_succ, List.getElem?_cons_zero] at x0 x1 x2 x3
  go_wp2_with fail
  refine (toTy_all (h + 1) x _ _ (tyR_later HB1.out (h + 1) _ _ HR.out) HWT.out).mono ?_
  rintro e w2 ⟨cs2, rfl, hl2, hrd2, hb, -⟩
  obtain ⟨p1, g1, rfl⟩ := ty_form hrd2
  have HRD2 := hide (tyR_frame (K' := AllK) (Stays.refl _ _) (fun _ _ => trivial) (h + 1) _ _ hrd2)
  have HB2 := hide (HB1.out.trans (hb.mono HB1.out.size))
  have HX2 := hide ((hb.block w.heap.size (heap_lt HX1.out)).trans HX1.out)
  clear hl2 hrd2 hb x0 x1 x2 x3
  go_wp2_with fail
  refine (specVars_any x _ w2 HRD2.out HNZ.out).mono ?_
  rintro e w3 ⟨vw, rfl, hvw, hb⟩
  rw [HRE.out] at hvw
  have HVW3 := hide hvw
  have HB3 := hide (HB2.out.trans (hb.mono HB2.out.size))
  have HX3 := hide ((hb.block w.heap.size (heap_lt HX2.out)).trans HX2.out)
  clear hb hvw
  have x0 := cell_of HX3.out 0
  have x1 := cell_of HX3.out 1
  have x2 := cell_of HX3.out 2
  have x3 := cell_of HX3.out 3
  simp only [List.getElem?_toArray, List.getElem?_cons_succ, List.getElem?_cons_zero] at x0 x1 x2 x3
  go_wp2_with fail
  refine (toTy_all (h + 1) x _ _ (tyR_later HB3.out (h + 1) _ _ HR.out) HWT.out).mono ?_
  rintro e w4 ⟨cs4, rfl, hl4, hrd4, hb, hpl⟩
  obtain ⟨s1, t1, rfl⟩ := ty_form hrd4
  have HRD4 := hide (tyR_in w4 (h + 1) _ _ hrd4)
  have HPL := hide hpl
  have HB4 := hide (HB3.out.trans (hb.mono HB3.out.size))
  have HX4 := hide ((hb.block w.heap.size (heap_lt HX3.out)).trans HX3.out)
  have HVW4 := hide (HVW3.out.later hb)
  have HZ34 := hide hb.size
  clear hl4 hrd4 hb hpl x0 x1 x2 x3
  have HA4 : Hid (Below w4.heap.size w4 (w4.alloc (.cells #[.int .i64 x.k, .string x.s, .int .i64 x.n, .slice s1 x.l.length t1] 29))) := (Below.refl _ w4).alloc (Nat.le_refl _) _
  have HY4 : Hid ((w4.alloc (.cells #[.int .i64 x.k, .string x.s, .int .i64 x.n, .slice s1 x.l.length t1] 29)).heap[w4.heap.size]? = some (.cells #[.int .i64 x.k, .string x.s, .int .i64 x.n, .slice s1 x.l.length t1] 29 (0, 0))) := heap_alloc_new w4 _
  obtain ⟨W5, hW5⟩ : ∃ W5, w4.alloc (.cells #[.int .i64 x.k, .string x.s, .int .i64 x.n, .slice s1 x.l.length t1] 29) = W5 := ⟨_, rfl⟩
  rw [hW5] at HA4 HY4
  have HRD5 := hide (tyR_later HA4.out (h + 1) _ _ HRD4.out)
  have HB5 := hide (HB4.out.trans (HA4.out.mono HB4.out.size))
  have HVW5 := hide (HVW4.out.later HA4.out)
  have HX5 := hide ((HA4.out.block w.heap.size (heap_lt HX4.out)).trans HX4.out)
  have HPL5 : Hid (∀ b, FromK w3.heap.size b ∧ b < w4.heap.size → ∃ c e, W5.heap[b]? = some (.cells c e (0, 0))) := fun b hb => by
    obtain ⟨c, e, h9⟩ := HPL.out b hb.1 hb.2
    exact ⟨c, e, (HA4.out.block b hb.2).trans h9⟩
  have y0 := cell_of HY4.out 0
  have y1 := cell_of HY4.out 1
  have y2 := cell_of HY4.out 2
  have y3 := cell_of HY4.out 3
  simp only [List.getElem?_toArray, List.getElem?_cons_succ, List.getElem?_cons_zero] at y0 y1 y2 y3
  have HIM := hide (implVars_any x s1 t1 W5 HRD5.out HPL5.out HNZ.out)
  go_wp2_with fail
  refine HIM.out.mono ?_
  rintro e w6 ⟨vg, rfl, hvg, hb⟩
  rw [HRE.out] at hvg
  have HVG6 : Hid (ORow 3 W5.heap.size w6 vg (R.map intV)) := hvg
  have HB6 := hide (HB5.out.trans (hb.mono HB5.out.size))
  have HVW6 := hide (HVW5.out.later hb)
  have HX6 := hide ((hb.block w.heap.size (heap_lt HX5.out)).trans HX5.out)
  have HY6 := hide ((hb.block w4.heap.size (heap_lt HY4.out)).trans HY4.out)
  have HRD6 := hide (tyR_later hb (h + 1) _ _ HRD5.out)
  have HPL6 : Hid (∀ b, FromK w3.heap.size b ∧ b < w4.heap.size → ∃ c e, w6.heap[b]? = some (.cells c e (0, 0))) := fun b hb' => by
    obtain ⟨c, e, h9⟩ := HPL5.out b hb'
    exact ⟨c, e, (hb.block b (heap_lt h9)).trans h9⟩
  clear hvg hb HIM y0 y1 y2 y3
  go_wp2_with fail
  refine (eqIntS_same R vg vw w6 HVG6.out HVW6.out).mono ?_
  rintro e w7 ⟨rfl, hb⟩
  have HB7 := hide (HB6.out.trans (hb.mono HB6.out.size))
  have HVW7 := hide (HVW6.out.later hb)
  have HVG7 := hide (HVG6.out.later hb)
  have HX7 := hide ((hb.block w.heap.size (heap_lt HX6.out)).trans HX6.out)
  have HY7 := hide ((hb.block w4.heap.size (heap_lt HY6.out)).trans HY6.out)
  have HRD7 := hide (tyR_later hb (h + 1) _ _ HRD6.out)
  have HRA7 := hide (tyR_later HB7.out (h + 1) _ _ HR.out)
  have HPL7 : Hid (∀ b, FromK w3.heap.size b ∧ b < w4.heap.size → ∃ c e, w7.heap[b]? = some (.cells c e (0, 0))) := fun b hb' => by
    obtain ⟨c, e, h9⟩ := HPL6.out b hb'
    exact ⟨c, e, (hb.block b (heap_lt h9)).trans h9⟩
  clear hb
  have x0 := cell_of HX7.out 0
  have x1 := cell_of HX7.out 1
  have x2 := cell_of HX7.out 2
  have x3 := cell_of HX7.out 3
  have y0 := cell_of HY7.out 0
  have y1 := cell_of HY7.out 1
  have y2 := cell_of HY7.out 2
  have y3 := cell_of HY7.out 3
  simp only [List.getElem?_toArray, List.getElem?_cons_succ, List.getElem?_cons_zero] at x0 x1 x2 x3 y0 y1 y2 y3
  have hy7 : w4.heap.size < w7.heap.size := heap_lt HY7.out
  go_wp2_with fail
  go_region_with (first
    | (go_at_call 9; refine (toTy_all (h + 1) x [.int .i64 x.k, .string x.s, .int .i64 x.n, .slice o1 x.l.length c1] _ (tyR_later (Below.refl _ _).drew (h + 1) _ _ HRA7.out) HWT.out).mono ?_; rintro e w8 ⟨cs8, rfl, hl8, hrd8, hb8, -⟩; obtain ⟨d1, f1, rfl⟩ := ty_form hrd8; have HRD8 := hide (tyR_frame (K' := AllK) (Stays.refl _ _) (fun _ _ => trivial) (h + 1) _ _ hrd8); have HRX8 := hide (tyR_later ((Below.refl _ _).drew.trans hb8) (h + 1) _ _ (tyR_frame (K' := AllK) (Stays.refl _ _) (fun _ _ => trivial) (h + 1) _ _ HRD7.out)); have HB8 := hide hb8; have z0 := (hb8.cell (p := ⟨w4.heap.size, 0, none⟩) hy7).trans y0; have z1 := (hb8.cell (p := ⟨w4.heap.size, 1, none⟩) hy7).trans y1; have z2 := (hb8.cell (p := ⟨w4.heap.size, 2, none⟩) hy7).trans y2; have z3 := (hb8.cell (p := ⟨w4.heap.size, 3, none⟩) hy7).trans y3; clear hl8 hrd8 hb8)
    | (go_at_call 11; refine (eqTy_all (h + 1) x _ _ _ HRX8.out HRD8.out).mono ?_; rintro e w9 ⟨rfl, hb9⟩; have HB9 := hide hb9; clear hb9))
  all_goals
    have hb79 : Below w7.heap.size w7 w9 := ((Below.refl _ w7).drew.trans HB8.out).trans (HB9.out.mono (((Below.refl _ w7).drew.trans HB8.out).size))
    have HBB9 := hide (HB7.out.trans (hb79.mono HB7.out.size))
    have HVW9 := hide (HVW7.out.later hb79)
    have HVG9 := hide (HVG7.out.later hb79)
    have HX9 := hide ((hb79.block w.heap.size (heap_lt HX7.out)).trans HX7.out)
    have HY9 := hide ((hb79.block w4.heap.size (heap_lt HY7.out)).trans HY7.out)
    have HRD9 := hide (tyR_later hb79 (h + 1) _ _ HRD7.out)
    have HPL9 : Hid (∀ b, FromK w3.heap.size b ∧ b < w4.heap.size → b < w9.heap.size ∧ PlainAt w9 ⟨b, 0, none⟩) := fun b hb' => by
      obtain ⟨c, e, h9⟩ := HPL7.out b hb'
      exact ⟨Nat.lt_of_lt_of_le (heap_lt h9) hb79.size, c, e, (hb79.block b (heap_lt h9)).trans h9⟩
    clear hb79 x0 x1 x2 x3 y0 y1 y2 y3 z0 z1 z2 z3 HB8 HB9 HRX8 HRD8
    have y0 := cell_of HY9.out 0
    have y1 := cell_of HY9.out 1
    have y2 := cell_of HY9.out 2
    have y3 := cell_of HY9.out 3
    simp only [List.getElem?_toArray, List.getElem?_cons_succ, List.getElem?_cons_zero] at y0 y1 y2 y3
    have HMT := hide (markTy_any x _ w9 HRD9.out HPL9.out HWT.out)
    go_wp2_with fail
    refine HMT.out.mono ?_
    rintro e w10 ⟨rm, rfl, hm⟩
    have hz10 := hm.keep.size
    have hk10 : ∀ b, b < w9.heap.size → ¬ (FromK w3.heap.size b ∧ b < w4.heap.size) → w10.heap[b]? = w9.heap[b]? := fun b h1 h2 => hm.keep.block b ⟨h2, h1⟩
    have HK10 := hide hk10
    have HVW10 : Hid (ORow 3 w2.heap.size w10 vw (R.map intV)) := HVW9.out.keep fun g hg => hk10 g (HVW9.out.lt g hg).2 fun h9 => by
      have h8 := (HVW3.out.lt g hg).2
      have : w3.heap.size ≤ g := h9.1
      omega
    have HVG10 : Hid (ORow 3 W5.heap.size w10 vg (R.map intV)) := HVG9.out.keep fun g hg => hk10 g (HVG9.out.lt g hg).2 fun h9 => by
      have h8 := (HVG9.out.lt g hg).1
      have := HA4.out.size
      have : g < w4.heap.size := h9.2
      omega
    have HB10 : Hid (Below w.heap.size w w10) := HBB9.out.trans ⟨hm.keep.os, hm.keep.tape, hm.keep.output, hm.keep.size, fun k hk' => hk10 k (Nat.lt_of_lt_of_le hk' HBB9.out.size) fun h9 => by
      have h8 := HB3.out.size
      have : w3.heap.size ≤ k := h9.1
      omega⟩
    have HX10 := hide ((hk10 w.heap.size (heap_lt HX9.out) fun h9 => by
      have h8 := heap_lt HX3.out
      have : w3.heap.size ≤ w.heap.size := h9.1
      omega).trans HX9.out)
    clear hm hk10 HMT y0 y1 y2 y3
    go_wp2_with fail
    refine (eqIntS_same R vg vw w10 HVG10.out HVW10.out).mono ?_
    rintro e w11 ⟨rfl, hb⟩
    have HB11 := hide (HB10.out.trans (hb.mono HB10.out.size))
    have HVW11 := hide (HVW10.out.later hb)
    have HVG11 := hide (HVG10.out.later hb)
    have HX11 := hide ((hb.block w.heap.size (heap_lt HX10.out)).trans HX10.out)
    clear hb
    have hml : (R.map intV).length ≤ 10000000 := by rw [List.length_map]; have := HRL.out; omega
    obtain ⟨N, hN⟩ : ∃ N : Nat, (R.map intV).length = N := ⟨_, rfl⟩
    have HMI := markIntS_any (R.map intV) vg 1 w11 (by omega) (by omega) HVG11.out hml (fun u hu => by
      obtain ⟨n, -, rfl⟩ := List.mem_map.1 hu
      exact ⟨n, rfl⟩)
    rw [hN] at HMI hml
    have HMI := hide HMI
    go_wp2_with fail
    refine HMI.out.mono ?_
    rintro e w12 ⟨rfl, hvm, hk⟩
    have HVM12 := hide hvm
    have hz12 := hk.size
    have hown : ∀ b, b < W5.heap.size → vg.ownBlock ≠ some b := fun b hb e => by
      have := (HVG11.out.lt b e).1
      omega
    have hs5 : w3.heap.size ≤ W5.heap.size := by
      have := HZ34.out
      have := HA4.out.size
      omega
    have HVW12 : Hid (ORow 3 w2.heap.size w12 vw (R.map intV)) := HVW11.out.keep fun g hg => hk.block g (hown g (by have := (HVW3.out.lt g hg).2; omega))
    have HB12 : Hid (Below w.heap.size w w12) := HB11.out.trans ⟨hk.os, hk.tape, hk.output, hk.size, fun k hk' => hk.block k (hown k (by have := HB3.out.size; omega))⟩
    have HX12 := hide ((hk.block w.heap.size (hown _ (by have := heap_lt HX3.out; omega))).trans HX11.out)
    clear hvm hk HMI hown
    have hqm : ((1 : Int) + (N : Int) != 1 + N) = false := by simp
    have hq0 : ¬ ((1 : Int) + (N : Int) < 0) := by omega
    have HHE := heldIntS_any (B := W5.heap.size) (R.map intV) vg 1 w12 (by omega) (by omega) (by rw [hN]; exact hml) (by rw [hN]; exact HVM12.out)
    rw [hN] at HHE
    have HHE := hide HHE
    go_wp2_with fail
    refine HHE.out.mono ?_
    rintro e w13 ⟨rfl, hb⟩
    have HB13 := hide (HB12.out.trans (hb.mono HB12.out.size))
    have HVW13 := hide (HVW12.out.later hb)
    have HVM13 := hide (HVM12.out.later hb)
    have HX13 := hide ((hb.block w.heap.size (heap_lt HX12.out)).trans HX12.out)
    clear hb HHE
    have x0 := cell_of HX13.out 0
    have x1 := cell_of HX13.out 1
    have x2 := cell_of HX13.out 2
    have x3 := cell_of HX13.out 3
    simp only [List.getElem?_toArray, List.getElem?_cons_succ, List.getElem?_cons_zero] at x0 x1 x2 x3
    go_wp2_with fail
    refine (toTy_all (h + 1) x _ _ (tyR_later HB13.out (h + 1) _ _ HR.out) HWT.out).mono ?_
    rintro e w14 ⟨cs14, rfl, hl14, hrd14, hb, hpl⟩
    obtain ⟨m1, n1, rfl⟩ := ty_form hrd14
    have HIM2 := implVars_any x m1 n1 w14 (tyR_in w14 (h + 1) _ _ hrd14) (fun b hb' => hpl b hb'.1 hb'.2) HNZ.out
    rw [HRE.out] at HIM2
    have HIM2 := hide HIM2
    have HB14 := hide (HB13.out.trans (hb.mono HB13.out.size))
    have HVW14 := hide (HVW13.out.later hb)
    have HVM14 := hide (HVM13.out.later hb)
    clear hl14 hrd14 hb hpl x0 x1 x2 x3
    go_wp2_with fail
    refine HIM2.out.mono ?_
    rintro e w15 ⟨vh, rfl, hvh, hb⟩
    have HVH15 : Hid (ORow 3 w14.heap.size w15 vh (R.map intV)) := hvh
    have HB15 := hide (HB14.out.trans (hb.mono HB14.out.size))
    have HVW15 := hide (HVW14.out.later hb)
    have HVM15 := hide (HVM14.out.later hb)
    clear hvh hb HIM2
    go_wp2_with fail
    refine (eqIntS_same R vh vw w15 HVH15.out HVW15.out).mono ?_
    rintro e w16 ⟨rfl, hb⟩
    have HB16 := hide (HB15.out.trans (hb.mono HB15.out.size))
    have HVM16 := hide (HVM15.out.later hb)
    clear hb
    have HHE := heldIntS_any (B := W5.heap.size) (R.map intV) vg 1 w16 (by omega) (by omega) (by rw [hN]; exact hml) (by rw [hN]; exact HVM16.out)
    rw [hN] at HHE
    have HHE := hide HHE
    go_wp2_with fail
    refine HHE.out.mono ?_
    rintro e w17 ⟨rfl, hb⟩
    have HB17 := hide (HB16.out.trans (hb.mono HB16.out.size))
    clear hb HHE
    go_wp2
    go_ret
    exact ⟨rfl, HB17.out⟩
end Go.Proofs.Ytncgbdbkoeiffam.Vo

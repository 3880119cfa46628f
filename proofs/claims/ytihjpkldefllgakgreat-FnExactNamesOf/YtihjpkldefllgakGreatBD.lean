/- The model's BoundOf. -/
import Derived.Test.YtihjpkldefllgakGreatBC
namespace Go.Proofs.YtihjpkldefllgakGreat.Nm
open Go.ChangeShapes Go.WideShapes Go.ChangeAt Go.RowKit

theorem box_cells {W : World} {b : Nat} {v0 v1 v2 v3 v4 v5 : Value} {t : TypeId} {fz : Nat × Nat} (h : W.heap[b]? = some (.cells #[v0, v1, v2, v3, v4, v5] t fz)) : W.cell? ⟨b, 0, none⟩ = some v0 ∧ W.cell? ⟨b, 1, none⟩ = some v1 ∧ W.cell? ⟨b, 2, none⟩ = some v2 ∧ W.cell? ⟨b, 3, none⟩ = some v3 ∧ W.cell? ⟨b, 4, none⟩ = some v4 ∧ W.cell? ⟨b, 5, none⟩ = some v5 :=
  ⟨cell_of h 0, cell_of h 1, cell_of h 2, cell_of h 3, cell_of h 4, cell_of h 5⟩
set_option maxHeartbeats 2000000 in
set_option maxRecDepth 100000 in
theorem bdEx_step {h : Nat} (ih : ∀ h', h' ≤ h → BdEx h' ∧ BdDs h') : BdEx (h + 1) := by
  intro K x cs w hr hn
  obtain ⟨x0, o1, c1, o2, c2, o3, c3, rfl, hsz, f1, f2, f3, r1, r2, r3⟩ := hr
  have hnx : (nmb (h + 1)).ex x = 1 + (x.l.map (nmb h).ex).sum + (x.al.map (nmb h).al).sum + (x.ds.map (nmb h).de).sum := rfl
  have hbx : ∀ y, (bnd (h + 1)).ex x y ↔ (x.k = 5 ∧ y = x.s) ∨ (∃ c ∈ x.l, (bnd h).ex c y) ∨ (∃ a ∈ x.al, (bnd h).al a y) ∨ (∃ d ∈ x.ds, (bnd h).de d y) := fun y => Iff.rfl
  obtain ⟨N, HNE⟩ : ∃ N, Hid ((nmb (h + 1)).ex x = N) := ⟨_, rfl⟩
  rw [HNE.out] at hn hnx ⊢
  have HBX := hide hbx
  have HSZ := hide hsz
  have HF1 := hide f1
  have HF2 := hide f2
  have HF3 := hide f3
  have ml1 : x.l.length ≤ 9223372036854775807 := f1.1
  have ml3 : x.al.length ≤ 9223372036854775807 := f3.1
  have HLAT : Hid (∀ W, Below w.heap.size w W → RowOf K W (reads K W h).ex 6 o1 x.l ∧ RowOf K W (reads K W h).de 9 o2 x.ds ∧ RowOf K W (reads K W h).al 8 o3 x.al) := fun W hW =>
    ⟨r1.later hW fun _ _ hh => (reads_later hW h).1 _ _ hh, r2.later hW fun _ _ hh => (reads_later hW h).2.1 _ _ hh, r3.later hW fun _ _ hh => (reads_later hW h).2.2 _ _ hh⟩
  have IH := hide ih
  obtain ⟨BX, HBE⟩ : ∃ BX, Hid (Obj.cells #[.int .i64 x.k, .string x.s, .int .i64 x.n, .slice o1 x.l.length c1, .slice o2 x.ds.length c2, .slice o3 x.al.length c3] 47 = BX) := ⟨_, rfl⟩
  have hB0 : Below w.heap.size w ((w.alloc BX).alloc (.cells #[] 9)) := ((Below.refl _ w).alloc (Nat.le_refl _) _).alloc (by simp) _
  have HX0 : Hid (((w.alloc BX).alloc (.cells #[] 9)).heap[w.heap.size]? = some BX) := (heap_alloc_old _ _ (by simp)).trans (heap_alloc_new w _)
  have hN0 := NRow.empty (w.alloc BX)
  have HN0 : Hid (NRow w.heap.size ((w.alloc BX).alloc (.cells #[] 9)) (.slice (some ⟨w.heap.size + 1, 0, none⟩) 0 0) []) := by
    have h9 := hN0.base (B' := w.heap.size) (by simp)
    show NRow _ _ _ _
    simpa using h9
  have HB0 := hide hB0
  clear hbx hsz f1 f2 f3 r1 r2 r3 ih hB0 hN0
  rw [← HBE.out] at HX0 HN0 HB0
  go_enter Tryz.func33, Tryz.ntmps33
  go_upto_if 9 with fail
  go_cut [3] (fun t3 W => ∃ l1, NRow w.heap.size W t3 l1 ∧ Asc l1 ∧ (∀ y, y ∈ l1 ↔ (x.k = 5 ∧ y = x.s) ∧ y ≠ und) ∧ l1.length ≤ 1 ∧ Below w.heap.size w W ∧ W.heap[w.heap.size]? = some BX)
  case first =>
    by_cases hk : x.k = 5
    · have hk2 : (x.k == 5) = true := by simpa using hk
      have HR0 : Hid (RowOf (fun _ => True) ((w.alloc (.cells #[.int .i64 x.k, .string x.s, .int .i64 x.n, .slice o1 x.l.length c1, .slice o2 x.ds.length c2, .slice o3 x.al.length c3] 47)).alloc (.cells #[] 9)) strR 1 (some ⟨w.heap.size + 1, 0, none⟩) []) := fun hh => absurd rfl hh
      have HKE := hide hk
      clear hk
      go_wp2_with fail
      refine (put_any [] x.s (some ⟨w.heap.size + 1, 0, none⟩) 0 _ (by simp) HSZ.out HR0.out List.Pairwise.nil).mono ?_
      rintro ee w2 ⟨v2, l2, rfl, hn2, hasc2, hmem2, hlen2, hb2⟩
      have HN2 := hide (hn2.base HB0.out.size)
      have HASC2 := hide hasc2
      have HMEM2 := hide hmem2
      have HB2 := hide (HB0.out.trans (hb2.mono HB0.out.size))
      have HX2 := hide ((hb2.block w.heap.size (by simp; omega)).trans HX0.out)
      clear hn2 hasc2 hmem2 hb2
      rw [HBE.out] at HX2
      go_wp2
      go_meet
      case rel =>
        refine ⟨l2, HN2.out, HASC2.out, fun y => ?_, hlen2, HB2.out, HX2.out⟩
        rw [HMEM2.out]
        simp only [List.not_mem_nil, false_or]
        exact ⟨fun hh => ⟨⟨HKE.out, hh.1⟩, hh.1 ▸ hh.2⟩, fun hh => ⟨hh.1.2, hh.1.2 ▸ hh.2⟩⟩
    · have hk2 : (x.k == 5) = false := by simpa using hk
      have HKE := hide hk
      clear hk
      rw [HBE.out] at HX0
      go_wp2
      go_meet
      case rel =>
        refine ⟨[], HN0.out, List.Pairwise.nil, fun y => ?_, by simp, HB0.out, ?_⟩
        · simp only [List.not_mem_nil, false_iff]
          exact fun hh => HKE.out hh.1.1
        · rw [← HBE.out]
          rw [← HBE.out] at HX0
          exact HX0.out
  case rest =>
    obtain ⟨l1, hn1, hasc1, hmem1, hlen1, hb1, hx1⟩ := hcut
    generalize wc = w1 at hn1 hb1 hx1 ⊢
    have HN1 := hide hn1
    have HASC1 := hide hasc1
    have HMEM1 := hide hmem1
    have HB1 := hide hb1
    have HX1 := hide hx1
    clear hn1 hasc1 hmem1 hb1 hx1 HN0 HB0 HX0
    go_wp2
    go_loopw [3, 4] (fun t3 t4 wr => ∃ (i : Nat) (l : List ByteArray), i ≤ x.l.length ∧ t4 = .int .i64 i ∧ NRow w.heap.size wr t3 l ∧ Asc l ∧ (∀ y, y ∈ l ↔ ((x.k = 5 ∧ y = x.s) ∨ (∃ c ∈ x.l.take i, (bnd h).ex c y)) ∧ y ≠ und) ∧ l.length ≤ 1 + ((x.l.take i).map (nmb h).ex).sum ∧ Below w.heap.size w wr ∧ wr.heap[w.heap.size]? = some BX) (fun _ t4 _ => x.l.length - (intOf t4).toNat)
    case atStart => exact ⟨0, l1, Nat.zero_le _, rfl, HN1.out, HASC1.out, fun y => by rw [HMEM1.out]; simp, by simpa using hlen1, HB1.out, HX1.out⟩
    case round =>
      obtain ⟨i, l, hi, rfl, hn, hasc, hmem, hlen, hb, hx⟩ := hrel
      have HNR := hide hn
      have HASC := hide hasc
      have HMEM := hide hmem
      have HB := hide hb
      have HX := hide hx
      rw [← HBE.out] at hx
      obtain ⟨-, -, -, z3, -, z5⟩ := box_cells hx
      by_cases hlt : i < x.l.length
      · have hne : x.l ≠ [] := by intro e; rw [e] at hlt; simp at hlt
        obtain ⟨b, off, eo, hkb, hblt, hcs⟩ := (HLAT.out wr hb).1 hne
        subst eo
        obtain ⟨cs, hcl, hkey, hr⟩ := hcs i _ (List.getElem?_eq_getElem hlt)
        have hsum := sum_take_succ (nmb h).ex x.l i hlt
        have hle := sum_take_le (nmb h).ex x.l (i + 1)
        have hmt := fun y => mem_take_succ (fun d => (bnd h).ex d y) x.l i hlt
        obtain ⟨d, hd⟩ : ∃ d, x.l[i] = d := ⟨_, rfl⟩
        rw [hd] at hsum hr
        simp only [hd] at hmt
        obtain ⟨a0, a1, a2, a3, a4, a5, rfl⟩ := six hcl
        have q0 := hkey 0 _ rfl
        have q1 := hkey 1 _ rfl
        have q2 := hkey 2 _ rfl
        have q3 := hkey 3 _ rfl
        have q4 := hkey 4 _ rfl
        have q5 := hkey 5 _ rfl
        rw [Nat.add_zero] at q0
        obtain ⟨o5, c5, rfl, hf5, hr5⟩ := hn.rowOf
        have HR5 : Hid (∀ W, Below wr.heap.size wr W → RowOf (fun _ => True) W strR 1 o5 l) := fun W hW => hr5.frame (Stays.of hW) (fun _ _ => trivial) (fun _ _ h => h)
        have HMT := hide hmt
        have HR := hide hr
        clear hn hasc hmem hb hx hcs hne hkey hr5 hf5 hmt hr hkb hblt
        go_wp2_with fail
        refine ((IH.out h (Nat.le_refl _)).1 K d _ _ HR.out (by omega)).mono ?_
        rintro ee w4 ⟨v4, l4, rfl, hn4, hasc4, hmem4, hlen4, hb4⟩
        obtain ⟨o8, c8, rfl, -, hr8⟩ := hn4.rowOf
        have HMEM4 := hide hmem4
        have HR8 := hide hr8
        have HB4 := hide hb4
        clear hn4 hasc4 hmem4 hb4 hr8 q0 q1 q2 q3 q4 q5
        go_wp2_with fail
        refine (join_any l l4 o5 o8 c5 c8 _ (by omega) (HR5.out _ HB4.out) HR8.out HASC.out).mono ?_
        rintro ee w5 ⟨v5, l5, rfl, hn5, hasc5, hmem5, hlen5, hb5⟩
        have HB5 : Hid (Below wr.heap.size wr w5) := HB4.out.trans (hb5.mono HB4.out.size)
        have HN5 := hide (hn5.base (Nat.le_trans HB.out.size HB4.out.size))
        have HX5 := hide ((HB5.out.block w.heap.size (heap_lt HX.out)).trans HX.out)
        have HASC5 := hide hasc5
        have HMEM5 := hide hmem5
        clear hn5 hasc5 hmem5 hb5 z3 z5
        go_wp2
        go_roundw
        case rel =>
          refine ⟨i + 1, l5, by omega, by go_num, HN5.out, HASC5.out, fun y => ?_, by omega, HB.out.trans (HB5.out.mono HB.out.size), HX5.out⟩
          rw [HMEM5.out, HMEM4.out, HMEM.out, HMT.out]
          constructor
          · rintro (⟨h1 | h1, h2⟩ | ⟨⟨h1, -⟩, h2⟩)
            · exact ⟨.inl h1, h2⟩
            · exact ⟨.inr (.inl h1), h2⟩
            · exact ⟨.inr (.inr h1), h2⟩
          · rintro ⟨h1 | h1 | h1, h2⟩
            · exact .inl ⟨.inl h1, h2⟩
            · exact .inl ⟨.inr h1, h2⟩
            · exact .inr ⟨⟨h1, h2⟩, h2⟩
        case measure => simp [intOf]; omega
      · have hie : i = x.l.length := by omega
        subst hie
        rw [List.take_length] at hlen
        have HMEMb : Hid (∀ y, y ∈ l ↔ ((x.k = 5 ∧ y = x.s) ∨ (∃ c ∈ x.l, (bnd h).ex c y)) ∧ y ≠ und) := by
          have h9 := HMEM.out
          rw [List.take_length] at h9
          exact h9
        clear hn hasc hmem hb hx HMEM
        go_wp2
        clear z3 z5
        generalize wr = wa at *
        go_loopw [3, 5] (fun t3 t5 wr => ∃ (i : Nat) (l : List ByteArray), i ≤ x.al.length ∧ t5 = .int .i64 i ∧ NRow w.heap.size wr t3 l ∧ Asc l ∧ (∀ y, y ∈ l ↔ ((x.k = 5 ∧ y = x.s) ∨ (∃ c ∈ x.l, (bnd h).ex c y) ∨ (∃ a ∈ x.al.take i, (bnd h).al a y)) ∧ y ≠ und) ∧ l.length ≤ 1 + (x.l.map (nmb h).ex).sum + ((x.al.take i).map (nmb h).al).sum ∧ Below w.heap.size w wr ∧ wr.heap[w.heap.size]? = some BX) (fun _ t5 _ => x.al.length - (intOf t5).toNat)
        case atStart => exact ⟨0, l, Nat.zero_le _, rfl, HNR.out, HASC.out, fun y => by rw [HMEMb.out]; simp, by simpa using hlen, HB.out, HX.out⟩
        case round =>
          clear hlen HNR HASC HMEMb HB HX
          obtain ⟨i, l, hi, rfl, hn, hasc, hmem, hlen, hb, hx⟩ := hrel
          have HNR := hide hn
          have HASC := hide hasc
          have HMEM := hide hmem
          have HB := hide hb
          have HX := hide hx
          rw [← HBE.out] at hx
          obtain ⟨-, -, -, -, z4, z5⟩ := box_cells hx
          by_cases hlt : i < x.al.length
          · have hne : x.al ≠ [] := by intro e; rw [e] at hlt; simp at hlt
            obtain ⟨b, off, eo, hkb, hblt, hcs⟩ := (HLAT.out wr hb).2.2 hne
            subst eo
            obtain ⟨cs, hcl, hkey, hr⟩ := hcs i _ (List.getElem?_eq_getElem hlt)
            have hsum := sum_take_succ (nmb h).al x.al i hlt
            have hle := sum_take_le (nmb h).al x.al (i + 1)
            have hmt := fun y => mem_take_succ (fun d => (bnd h).al d y) x.al i hlt
            obtain ⟨d, hd⟩ : ∃ d, x.al[i] = d := ⟨_, rfl⟩
            rw [hd] at hsum hr
            simp only [hd] at hmt
            cases h with
            | zero => exact hr.elim
            | succ h =>
              obtain ⟨d0, d1, d2, d3, e, p1, g1, ce, e0, e1, e2, e3, s1, e5, s2⟩ := hr
              have hdn : (nmb (h + 1)).al d = d.ss.length + (nmb h).ex e := by
                show d.ss.length + (d.l.map (nmb h).ex).sum = _
                rw [e0]
                simp
              have hdb : ∀ y, (bnd (h + 1)).al d y ↔ y ∈ d.ss ∨ (bnd h).ex e y := by
                intro y
                show (y ∈ d.ss ∨ (∃ c ∈ d.l, (bnd h).ex c y)) ↔ _
                rw [e0]
                simp
              obtain ⟨a0, a1, a2, a3, a4, a5, rfl⟩ := six e5
              subst e1
              have q1 := hkey 1 _ rfl
              have q2 := hkey 2 _ rfl
              have q3 := hkey 3 _ rfl
              have q4 := hkey 4 _ rfl
              have q5 := hkey 5 _ rfl
              have q6 := hkey 6 _ rfl
              have q7 := hkey 7 _ rfl
              obtain ⟨o5, c5, rfl, hf5, hr5⟩ := hn.rowOf
              have IHE := hide (IH.out h (by omega)).1
              have HLT2 : Hid (∀ W, Below wr.heap.size wr W → RowOf (fun _ => True) W strR 1 o5 l ∧ RowOf (fun _ => True) W strR 1 p1 d.ss ∧ (reads K W h).ex e [a0, a1, a2, a3, a4, a5]) := fun W hW =>
                ⟨hr5.frame (Stays.of hW) (fun _ _ => trivial) (fun _ _ h => h), s1.frame (Stays.of hW) (fun _ _ => trivial) (fun _ _ h => h), (reads_later hW h).1 _ _ s2⟩
              have HCE : Hid (∀ W, Below wr.heap.size wr W → W.cell? ⟨b, off + i * 8 + 1, none⟩ = some (.slice p1 d.ss.length g1) ∧ W.cell? ⟨b, off + i * 8 + 2, none⟩ = some a0 ∧ W.cell? ⟨b, off + i * 8 + 3, none⟩ = some a1 ∧ W.cell? ⟨b, off + i * 8 + 4, none⟩ = some a2 ∧ W.cell? ⟨b, off + i * 8 + 5, none⟩ = some a3 ∧ W.cell? ⟨b, off + i * 8 + 6, none⟩ = some a4 ∧ W.cell? ⟨b, off + i * 8 + 7, none⟩ = some a5 ∧ W.cell? ⟨w.heap.size, 5, none⟩ = some (.slice (some ⟨b, off, none⟩) x.al.length c3)) := fun W hW =>
                ⟨(hW.cell (p := ⟨b, _, none⟩) hblt).trans q1, (hW.cell (p := ⟨b, _, none⟩) hblt).trans q2, (hW.cell (p := ⟨b, _, none⟩) hblt).trans q3, (hW.cell (p := ⟨b, _, none⟩) hblt).trans q4, (hW.cell (p := ⟨b, _, none⟩) hblt).trans q5, (hW.cell (p := ⟨b, _, none⟩) hblt).trans q6, (hW.cell (p := ⟨b, _, none⟩) hblt).trans q7, (hW.cell (p := ⟨w.heap.size, _, none⟩) (heap_lt HX.out)).trans z5⟩
              have HDW : Hid (Below wr.heap.size wr wr.drew) := (Below.refl _ wr).drew
              have hLEN : l.length + d.ss.length + (nmb h).ex e ≤ 5000000 := by omega
              have HMT := hide hmt
              have HDB := hide hdb
              clear hn hasc hmem hb hx hcs hne hkey hr5 hf5 hmt hdb e2 e3 s1 s2 e5 hkb hblt d0 d1 d2 d3 hcl
              go_upto_region 11 with fail
              have HJ1 : Hid (∀ W, Below wr.heap.size wr W → Calls Tryz.prog 16 #[.slice o5 l.length c5, .slice p1 d.ss.length g1] W (JoinP l d.ss W)) := fun W hW => join_any l d.ss o5 p1 c5 g1 W (by omega) (HLT2.out _ hW).1 (HLT2.out _ hW).2.1 HASC.out
              have HE1 : Hid (∀ W, Below wr.heap.size wr W → Calls Tryz.prog 33 #[.agg #[a0, a1, a2, a3, a4, a5]] W (Ans ((bnd h).ex e) ((nmb h).ex e) W)) := fun W hW => IHE.out K e [a0, a1, a2, a3, a4, a5] W (HLT2.out _ hW).2.2 (by omega)
              go_region_with (first
                | (go_at_call 33; ((with_reducible refine Calls.mono (HE1.out _ (by first | exact HB2.out | exact HDW.out)) ?_); rintro ee w4 ⟨v4, l4, rfl, hn4, hasc4, hmem4, hlen4, hb4⟩; obtain ⟨o8, c8, rfl, -, hr8⟩ := hn4.rowOf; have HMEM4 := hide hmem4; have HR8 : Hid (∀ W, Below w4.heap.size w4 W → RowOf (fun _ => True) W strR 1 o8 l4) := (fun W hW => hr8.frame (Stays.of hW) (fun _ _ => trivial) (fun _ _ h => h)); have HB4 : Hid (Below wr.heap.size wr w4) := (by first | exact HB2.out.trans (hb4.mono HB2.out.size) | exact HDW.out.trans hb4); obtain ⟨y1, y2, y3, y4, y5, y6, y7, y8⟩ := HCE.out w4 HB4.out; (try have HJ2 : Hid (Calls Tryz.prog 16 #[.slice o6 l2.length c6, .slice o8 l4.length c8] w4 (JoinP l2 l4 w4)) := (join_any l2 l4 o6 o8 c6 c8 w4 (by omega) (HR6.out _ hb4) (HR8.out _ (Below.refl _ _)) HASC2.out)); clear hn4 hasc4 hmem4 hb4 hr8))
                | (go_at_call 16; first
                    | ((with_reducible refine Calls.mono HJ2.out ?_); rintro ee w5 ⟨v5, l5, rfl, hn5, hasc5, hmem5, hlen5, hb5⟩; have HB5 : Hid (Below wr.heap.size wr w5) := (by first | exact HB4.out.trans (hb5.mono HB4.out.size) | exact HB2.out.trans (hb5.mono HB2.out.size)); have HN5 : Hid (NRow w.heap.size w5 v5 l5) := (hn5.base (by first | exact Nat.le_trans HB.out.size HB4.out.size | exact Nat.le_trans HB.out.size HB2.out.size)); have HASC5 := hide hasc5; have HMEM5 := hide hmem5; clear hn5 hasc5 hmem5 hb5)
                    | ((with_reducible refine Calls.mono (HJ1.out _ (by first | exact HB4.out | exact HDW.out)) ?_); rintro ee w2 ⟨v2, l2, rfl, hn2, hasc2, hmem2, hlen2, hb2⟩; obtain ⟨o6, c6, rfl, -, hr6⟩ := hn2.rowOf; have HASC2 := hide hasc2; have HMEM2 := hide hmem2; have HR6 : Hid (∀ W, Below w2.heap.size w2 W → RowOf (fun _ => True) W strR 1 o6 l2) := (fun W hW => hr6.frame (Stays.of hW) (fun _ _ => trivial) (fun _ _ h => h)); have HB2 : Hid (Below wr.heap.size wr w2) := (by first | exact HB4.out.trans (hb2.mono HB4.out.size) | exact HDW.out.trans hb2); obtain ⟨y1, y2, y3, y4, y5, y6, y7, y8⟩ := HCE.out w2 HB2.out; (try have HJ2 : Hid (Calls Tryz.prog 16 #[.slice o6 l2.length c6, .slice o8 l4.length c8] w2 (JoinP l2 l4 w2)) := (join_any l2 l4 o6 o8 c6 c8 w2 (by omega) (HR6.out _ (Below.refl _ _)) (HR8.out _ hb2) hasc2)); clear hn2 hasc2 hmem2 hb2 hr6)))
              all_goals
                have HX5 := hide ((HB5.out.block w.heap.size (heap_lt HX.out)).trans HX.out)
                clear q1 q2 q3 q4 q5 q6 q7 z4 z5 y1 y2 y3 y4 y5 y6 y7 y8
                go_wp2
                go_roundw
                case rel =>
                  refine ⟨i + 1, l5, by omega, by go_num, HN5.out, HASC5.out, fun y => ?_, by omega, HB.out.trans (HB5.out.mono HB.out.size), HX5.out⟩
                  rw [HMEM5.out, HMEM2.out, HMEM4.out, HMEM.out, HMT.out, HDB.out]
                  constructor
                  · rintro ((⟨h1 | h1 | h1, h2⟩ | ⟨h1, h2⟩) | ⟨⟨h1, -⟩, h2⟩)
                    · exact ⟨.inl h1, h2⟩
                    · exact ⟨.inr (.inl h1), h2⟩
                    · exact ⟨.inr (.inr (.inl h1)), h2⟩
                    · exact ⟨.inr (.inr (.inr (.inl h1))), h2⟩
                    · exact ⟨.inr (.inr (.inr (.inr h1))), h2⟩
                  · rintro ⟨h1 | h1 | h1 | h1 | h1, h2⟩
                    · exact .inl (.inl ⟨.inl h1, h2⟩)
                    · exact .inl (.inl ⟨.inr (.inl h1), h2⟩)
                    · exact .inl (.inl ⟨.inr (.inr h1), h2⟩)
                    · exact .inl (.inr ⟨h1, h2⟩)
                    · exact .inr ⟨⟨h1, h2⟩, h2⟩
                case measure => simp [intOf]; omega
          · have hie : i = x.al.length := by omega
            subst hie
            rw [List.take_length] at hlen
            have HMEMb : Hid (∀ y, y ∈ l ↔ ((x.k = 5 ∧ y = x.s) ∨ (∃ c ∈ x.l, (bnd h).ex c y) ∨ (∃ a ∈ x.al, (bnd h).al a y)) ∧ y ≠ und) := by
              have h9 := HMEM.out
              rw [List.take_length] at h9
              exact h9
            obtain ⟨o5, c5, rfl, hf5, hr5⟩ := hn.rowOf
            have HR5 : Hid (∀ W, Below wr.heap.size wr W → RowOf (fun _ => True) W strR 1 o5 l) := fun W hW => hr5.frame (Stays.of hW) (fun _ _ => trivial) (fun _ _ h => h)
            clear hn hasc hmem hb hx HMEM hr5 hf5
            go_wp2_with fail
            refine ((IH.out h (Nat.le_refl _)).2 K x.ds o2 c2 _ (HLAT.out _ HB.out).2.1 HF2.out.1 (by omega)).mono ?_
            rintro ee w6 ⟨v6, l6, rfl, hn6, hasc6, hmem6, hlen6, hb6⟩
            obtain ⟨oA, cA, rfl, -, hrA⟩ := hn6.rowOf
            have HMEM6 := hide hmem6
            have HRA := hide hrA
            have HB6 := hide hb6
            clear hn6 hasc6 hmem6 hb6 hrA z4 z5
            go_wp2_with fail
            refine (join_any l l6 o5 oA c5 cA _ (by omega) (HR5.out _ HB6.out) HRA.out HASC.out).mono ?_
            rintro ee w7 ⟨v7, l7, rfl, hn7, hasc7, hmem7, hlen7, hb7⟩
            have HB7 : Hid (Below w.heap.size w w7) := HB.out.trans ((HB6.out.trans (hb7.mono HB6.out.size)).mono HB.out.size)
            have HN7 := hide (hn7.base (Nat.le_trans HB.out.size HB6.out.size))
            have HASC7 := hide hasc7
            have HMEM7 := hide hmem7
            clear hn7 hasc7 hmem7 hb7
            go_wp2
            go_ret
            refine ⟨_, l7, rfl, HN7.out, HASC7.out, fun y => ?_, by omega, HB7.out⟩
            rw [HMEM7.out, HMEM6.out, HMEMb.out, HBX.out]
            constructor
            · rintro (⟨h1 | h1 | h1, h2⟩ | ⟨⟨h1, -⟩, h2⟩)
              · exact ⟨.inl h1, h2⟩
              · exact ⟨.inr (.inl h1), h2⟩
              · exact ⟨.inr (.inr (.inl h1)), h2⟩
              · exact ⟨.inr (.inr (.inr h1)), h2⟩
            · rintro ⟨h1 | h1 | h1 | h1, h2⟩
              · exact .inl ⟨.inl h1, h2⟩
              · exact .inl ⟨.inr (.inl h1), h2⟩
              · exact .inl ⟨.inr (.inr h1), h2⟩
              · exact .inr ⟨⟨h1, h2⟩, h2⟩
theorem bd_all : ∀ h, BdEx h ∧ BdDs h := by
  have key : ∀ n h, h ≤ n → BdEx h ∧ BdDs h := by
    intro n
    induction n with
    | zero =>
      intro h hh
      have : h = 0 := by omega
      subst this
      exact ⟨fun K x cs w hr => hr.elim, bdDs_of fun h' e => by omega⟩
    | succ n ih =>
      intro h hh
      cases h with
      | zero => exact ih 0 (Nat.zero_le _)
      | succ h => exact ⟨bdEx_step fun h' hh' => ih h' (by omega), bdDs_of fun h' e => by cases e; exact ih h (by omega)⟩
  exact fun h => key h h (Nat.le_refl _)
end Go.Proofs.YtihjpkldefllgakGreat.Nm

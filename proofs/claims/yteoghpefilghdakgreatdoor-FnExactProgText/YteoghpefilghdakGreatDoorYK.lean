/- The program's checks of a definition and of definitions. -/
import Derived.Test.YteoghpefilghdakGreatDoorYJ
namespace Go.Proofs.YteoghpefilghdakGreatDoor
open Go.ChangeShapes Go.WideShapes Go.ChangeAt Go.RowKit

set_option maxHeartbeats 1000000 in
set_option maxRecDepth 100000 in
theorem decOk_of {h : Nat} (hP : ChPs h) (hD : ChDs h) : ChDe (h + 1) := by
  intro x cs w cb n d hr hc hn h0 h1
  obtain ⟨-, -, -, y, p0, g0, ce, p4, g4, hy, rfl, hs, hf1, hf2, qs, hce, qe, qd⟩ := hr
  obtain ⟨p1, g1, p2, g2, p3, g3, rfl⟩ := ex_form qe
  simp only [List.cons_append, List.nil_append]
  have HP := hide hP
  have HD := hide hD
  have HC := hide hc
  have HS := hide hs
  have HF1 := hide hf1
  have HF2 := hide hf2
  have QS := hide qs
  have QE := hide qe
  have QD := hide qd
  have hcb : cb < w.heap.size := heap_lt hc
  have hd2 : x.ds.length ≤ 9223372036854775807 := hf2.1
  have HOK : Hid ((okz (h + 1)).de x d = ((nmB x.s && varsB x.ss) && ((okz h).ex y (d + 1) && (decide (x.ds.length = 0) || decsB (okz h).de x.ds 6 (d + 1))))) := by
    show ((nmB x.s && varsB x.ss) && (allZ (okz h).ex x.l (d + 1) && _)) = _
    rw [hy]
    simp [allZ]
  have HCN : Hid ((cnt (h + 1)).de x = (cnt h).ex y + sumZ (cnt h).de x.ds) := by
    show sumZ (cnt h).ex x.l + _ = _
    rw [hy]
    simp [sumZ]
  clear hP hD hc hs hf1 hf2 qs qe qd hce hy
  have HX0 : Hid ((w.alloc (.cells #[.string x.s, .slice p0 x.ss.length g0, .int .i64 y.k, .string y.s, .int .i64 y.n, .slice p1 y.l.length g1, .slice p2 y.ds.length g2, .slice p3 y.al.length g3, .slice p4 x.ds.length g4] 49)).heap[w.heap.size]? = some (.cells #[.string x.s, .slice p0 x.ss.length g0, .int .i64 y.k, .string y.s, .int .i64 y.n, .slice p1 y.l.length g1, .slice p2 y.ds.length g2, .slice p3 y.al.length g3, .slice p4 x.ds.length g4] 49 (0, 0))) := heap_alloc_new w _
  have HB0 : Hid (Below w.heap.size w (w.alloc (.cells #[.string x.s, .slice p0 x.ss.length g0, .int .i64 y.k, .string y.s, .int .i64 y.n, .slice p1 y.l.length g1, .slice p2 y.ds.length g2, .slice p3 y.al.length g3, .slice p4 x.ds.length g4] 49))) := (Below.refl _ w).alloc (Nat.le_refl _) _
  cases hnm : nmB x.s
  · have HNM : Hid (nameB x.s.data.toList = false) := hnm
    have HNM2 := hide hnm
    clear hnm
    go_enter Tryz.func64, Tryz.ntmps64
    go_wp2_with fail
    refine (implName_any _ _ HS.out).mono ?_
    rintro e w1 ⟨rfl, hb⟩
    rw [HNM.out]
    have HB1 := hide (HB0.out.trans (hb.mono HB0.out.size))
    clear hb
    go_wp2
    go_ret
    exact ⟨n, ret_bool (by rw [HOK.out, HNM2.out]; rfl), HC.out.later HB1.out, (fun hx => by rw [HOK.out, HNM2.out] at hx; cases hx), Kp.of HB1.out⟩
  have HNM : Hid (nameB x.s.data.toList = true) := hnm
  have HNM2 := hide hnm
  clear hnm
  cases hva : varsB x.ss
  all_goals
    have HVA := hide hva
    clear hva
    go_enter Tryz.func64, Tryz.ntmps64
    go_wp2_with fail
    refine (implName_any _ _ HS.out).mono ?_
    rintro e w1 ⟨rfl, hb⟩
    rw [HNM.out]
    have HB1 := hide (HB0.out.trans (hb.mono HB0.out.size))
    have HX1 := hide ((hb.block w.heap.size (heap_lt HX0.out)).trans HX0.out)
    clear hb
    have b1 := cell_of HX1.out 1
    simp only [List.getElem?_toArray, List.getElem?_cons_succ, List.getElem?_cons_zero] at b1
    go_wp2_with fail
    refine (parsOk_any x.ss p0 g0 _ HF1.out.1 HF1.out.2 (QS.out.later HB1.out fun _ _ h => h)).mono ?_
    rintro e w2 ⟨rfl, hb⟩
    rw [HVA.out]
    have HB2 := hide (HB1.out.trans (hb.mono HB1.out.size))
    have HX2 := hide ((hb.block w.heap.size (heap_lt HX1.out)).trans HX1.out)
    clear hb b1
  · go_wp2
    go_ret
    exact ⟨n, ret_bool (by rw [HOK.out, HVA.out]; simp), HC.out.later HB2.out, (fun hx => by rw [HOK.out, HVA.out] at hx; simp at hx), Kp.of HB2.out⟩
  · have c2 := cell_of HX2.out 2
    have c3 := cell_of HX2.out 3
    have c4 := cell_of HX2.out 4
    have c5 := cell_of HX2.out 5
    have c6 := cell_of HX2.out 6
    have c7 := cell_of HX2.out 7
    simp only [List.getElem?_toArray, List.getElem?_cons_succ, List.getElem?_cons_zero] at c2 c3 c4 c5 c6 c7
    have HA1 : Hid (Below w2.heap.size w2 (w2.alloc (.cells #[.int .i64 y.k, .string y.s, .int .i64 y.n, .slice p1 y.l.length g1, .slice p2 y.ds.length g2, .slice p3 y.al.length g3] 47))) := (Below.refl _ w2).alloc (Nat.le_refl _) _
    have HB3 := hide (HB2.out.trans (HA1.out.mono HB2.out.size))
    have HX3 := hide ((HA1.out.block w.heap.size (heap_lt HX2.out)).trans HX2.out)
    have HROW : Hid (RowOf (NeK cb) (w2.alloc (.cells #[.int .i64 y.k, .string y.s, .int .i64 y.n, .slice p1 y.l.length g1, .slice p2 y.ds.length g2, .slice p3 y.al.length g3] 47)) (reads (NeK cb) (w2.alloc (.cells #[.int .i64 y.k, .string y.s, .int .i64 y.n, .slice p1 y.l.length g1, .slice p2 y.ds.length g2, .slice p3 y.al.length g3] 47)) h).ex 6 (some ⟨w2.heap.size, 0, none⟩) [y]) :=
      (filled1 ((reads_later HB3.out h).1 _ _ QE.out)).row (heap_alloc_new w2 _) (by show w2.heap.size ≠ cb; have := HB2.out.size; omega)
    go_wp2_with fail
    refine (HP.out [y] _ 1 _ cb n d HROW.out (show 1 ≤ maxLen by decide) (HC.out.later HB3.out) hn (by omega) (by omega)).mono ?_
    rintro e w3 ⟨n', rfl, hc1, hn1, hk1⟩
    rw [good_one]
    have HN1 : Hid (((okz h).ex y (d + 1) && decide (n + (cnt h).ex y ≤ 200)) = true → n' = n + (cnt h).ex y) := by
      intro hx
      rw [good_one] at hn1
      have := hn1 hx
      simpa [sumZ] using this
    have HC1 := hide hc1
    have HK1 := hide ((Kp.of (cb := cb) HB3.out).on hk1)
    have HX4 := hide ((hk1.block w.heap.size (heap_lt HX3.out) (by omega)).trans HX3.out)
    clear hc1 hn1 hk1
    cases hg : ((okz h).ex y (d + 1) && decide (n + (cnt h).ex y ≤ 200))
    · have HG := hide hg
      clear hg
      go_wp2
      go_ret
      have hf : ((okz (h + 1)).de x d && decide (n + (cnt (h + 1)).de x ≤ 200)) = false := by
        rw [HOK.out, HCN.out]
        have h2 := HG.out
        cases hq : (okz h).ex y (d + 1)
        · simp
        · rw [hq, Bool.true_and] at h2
          have := of_decide_eq_false h2
          rw [decide_eq_false (show ¬ n + ((cnt h).ex y + sumZ (cnt h).de x.ds) ≤ 200 by omega), Bool.and_false]
      exact ⟨n', ret_bool hf.symm, HC1.out, (fun hx => by rw [hf] at hx; cases hx), HK1.out⟩
    · have hg2 := hg
      rw [Bool.and_eq_true] at hg2
      have hle := of_decide_eq_true hg2.2
      have hdeep := okz_deep hg2.1
      have HGE := hide hg2.1
      have HG := hide hg
      clear hg hg2
      have HNE := hide (HN1.out HG.out)
      have e8 := cell_of HX4.out 8
      simp only [List.getElem?_toArray, List.getElem?_cons_succ, List.getElem?_cons_zero] at e8
      by_cases hds : x.ds.length = 0
      · have hds2 : (x.ds.length == 0) = true := by simpa using hds
        have hds3 : ((x.ds.length : Int) == 0) = true := by simpa using hds
        have HDS := hide hds
        clear hds
        go_wp2
        go_ret
        have ht : ((okz (h + 1)).de x d && decide (n + (cnt (h + 1)).de x ≤ 200)) = true := by
          rw [HOK.out, HCN.out, HNM2.out, HVA.out, HGE.out, decide_eq_true HDS.out, List.length_eq_zero_iff.1 HDS.out]
          simpa [sumZ] using hle
        refine ⟨n', ret_bool ht.symm, HC1.out, fun _ => ?_, HK1.out⟩
        rw [HNE.out, HCN.out, List.length_eq_zero_iff.1 HDS.out]
        simp [sumZ]
      · have hds2 : (x.ds.length == 0) = false := by simpa using hds
        have hds3 : ((x.ds.length : Int) == 0) = false := by simpa using hds
        have HDS := hide hds
        clear hds
        have hn' : n' ≤ 200 := by rw [HNE.out]; exact hle
        have st := HK1.out.stays
        go_wp2_with fail
        refine (HD.out x.ds p4 g4 _ cb n' 6 (d + 1) (QD.out.frame st (fun _ h => h) (reads_frame st (fun _ h => h) h).2.1) HF2.out.1 HC1.out hn' (by omega) (by omega) (by omega) (by omega)).mono ?_
        rintro e w4 ⟨n'', rfl, hc2, hn2, hk2⟩
        have HN2 := hide hn2
        have HC2 := hide hc2
        have HK2 := hide (HK1.out.on hk2)
        clear hn2 hc2 hk2 st
        go_wp2
        go_ret
        have ht : ((okz (h + 1)).de x d && decide (n + (cnt (h + 1)).de x ≤ 200)) = (decsB (okz h).de x.ds 6 (d + 1) && decide (n' + sumZ (cnt h).de x.ds ≤ 200)) := by
          rw [HOK.out, HCN.out, HNM2.out, HVA.out, HGE.out, decide_eq_false HDS.out, HNE.out, Nat.add_assoc]
          simp
        refine ⟨n'', ret_bool ht.symm, HC2.out, fun hx => ?_, HK2.out⟩
        rw [ht] at hx
        rw [HN2.out hx, HCN.out, HNE.out, Nat.add_assoc]

theorem cell1_at (W : World) (a : Value) (t : TypeId) : ∀ (j : Nat) (u : Value), [a][j]? = some u → (W.alloc (.cells #[a] t)).cell? ((⟨W.heap.size, 0, none⟩ : Addr).add j) = some u := by
  intro j u hj
  match j, hj with
  | 0, hj => simp at hj; subst hj; simp [Addr.add]
  | j + 1, hj => simp at hj
theorem str_one (s : ByteArray) : ∀ u ∈ [Value.string s], u.oneCell' = true := by
  intro u hu
  simp only [List.mem_cons, List.not_mem_nil, or_false] at hu
  subst hu
  rfl
/-- An owned row of texts, read. -/
theorem strs_of {w : World} {base : Nat} {e : TypeId} {v : Value} {xs : List ByteArray} (h : w.ownsRow base e 1 v xs.length (xs.map Value.string)) (hs : ∀ s ∈ xs, s.size ≤ maxLen) : ∃ o cap, v = .slice o xs.length cap ∧ xs.length ≤ maxLen ∧ xs.length ≤ cap ∧ RowOf AllK w strR 1 o xs := by
  obtain ⟨hl, hc⟩ := h
  rcases hc with ⟨hv, h0⟩ | ⟨g, cap, cur, hv, hb, hg, hn, hcap, hsz, htk⟩
  · have hts : xs = [] := List.length_eq_zero_iff.1 h0
    subst hts
    exact ⟨none, 0, hv, Nat.zero_le _, Nat.zero_le _, fun h => absurd rfl h⟩
  · refine ⟨some ⟨g, 0, none⟩, cap, hv, by omega, hn, fun _ => ⟨g, 0, rfl, trivial, heap_lt hg, fun i x hx => ?_⟩⟩
    refine ⟨[.string x], rfl, fun j u hu => ?_, rfl, hs x (List.mem_of_getElem? hx)⟩
    have hj : j = 0 := by
      have := (List.getElem?_eq_some_iff.1 hu).1
      simp at this
      exact this
    subst hj
    have hu2 : Value.string x = u := by simpa using hu
    subst hu2
    have hi : i < xs.length := (List.getElem?_eq_some_iff.1 hx).1
    rw [Nat.zero_add, Nat.mul_one, Nat.add_zero]
    have htk2 : cur.toList.take xs.length = xs.map Value.string := by rw [← htk, Nat.mul_one]
    exact owns_cell hg htk2 i hi _ (by rw [List.getElem?_map, hx]; rfl)

set_option maxHeartbeats 1000000 in
set_option maxRecDepth 100000 in
theorem decsOk_of {h : Nat} (hD : ChDe h) : ChDs h := by
  intro xs o c w cb n m d hm hl hc hn hm0 hm1 h0 h1
  have HD := hide hD
  have HM := hide hm
  have HC := hide hc
  have hcb : cb < w.heap.size := heap_lt hc
  have hl2 : xs.length ≤ 9223372036854775807 := hl
  have HSZ : Hid (∀ (i : Nat) (x : Tr), xs[i]? = some x → x.s.size ≤ maxLen) := by
    intro i x hx
    have hne : xs ≠ [] := by intro e; rw [e] at hx; simp at hx
    obtain ⟨_, _, _, _, _, hcs⟩ := hm hne
    obtain ⟨_, _, _, hrd⟩ := hcs i x hx
    cases h with
    | zero => exact hrd.elim
    | succ h =>
      obtain ⟨-, -, -, y, p0, g0, ce, p4, g4, hy, -, hs, -⟩ := hrd
      exact hs
  have HNM : Hid (∀ (x : Tr) (D : Int), (okz h).de x D = true → nmB x.s = true) := by
    intro x D hx
    cases h with
    | zero => cases hx
    | succ h =>
      have h2 : ((nmB x.s && varsB x.ss) && _) = true := hx
      rw [Bool.and_eq_true, Bool.and_eq_true] at h2
      exact h2.1.1
  clear hD hm hc hl
  obtain ⟨i0, hi0, hz0, hz1, hz2⟩ := info_parts info_string
  cases hin : inB xs.length 1 m
  · have HIN : Hid (decsB (okz h).de xs m d = false) := by show decsB _ _ _ _ = false; unfold decsB; rw [hin]; rfl
    have hor : (xs.length : Int) < 1 ∨ (¬ (xs.length : Int) < 1 ∧ m < (xs.length : Int)) := by
      unfold inB at hin
      simp at hin
      omega
    clear hin
    rcases hor with ha | ⟨ha, hb⟩
    all_goals
      go_enter Tryz.func35, Tryz.ntmps35
      go_wp2
      go_ret
      exact ⟨n, ret_bool (by rw [HIN.out]; rfl), HC.out, (fun hx => by rw [HIN.out] at hx; cases hx), Kp.refl _ _ _⟩
  have HIN := hide hin
  have hb1 : ¬ (xs.length : Int) < 1 := by unfold inB at hin; simp at hin; omega
  have hb2 : ¬ m < (xs.length : Int) := by unfold inB at hin; simp at hin; omega
  have hb3 : xs.length ≤ 12 := by unfold inB at hin; simp at hin; omega
  clear hin
  go_enter Tryz.func35, Tryz.ntmps35
  go_wp2
  go_loopw [9, 24] (fun t9 t wr => ∃ (i : Nat), i ≤ xs.length ∧ t = .int .i64 i ∧ goodTo (okz h).de (cnt h).de xs d n i = true ∧ Ctr wr cb ((n + sumZ (cnt h).de (xs.take i) : Nat) : Int) ∧ wr.ownsRow w.heap.size 9 1 t9 i (((xs.map Tr.s).take i).map Value.string) ∧ Kp w.heap.size cb w wr) (fun _ t _ => xs.length - (intOf t).toNat)
  case atStart => exact ⟨0, Nat.zero_le _, rfl, by simp [goodTo, allZ, sumZ, hn], by simpa [sumZ] using HC.out.later ((Below.refl _ w).alloc (Nat.le_refl _) _), owns_empty w _ _, Kp.of ((Below.refl _ w).alloc (Nat.le_refl _) _)⟩
  case round =>
    obtain ⟨i, hi, rfl, hg, hcr, how, hkp⟩ := hrel
    have hle := goodTo_le hg
    have HG := hide hg
    have HCR := hide hcr
    have HKP := hide hkp
    have HOW := hide how
    clear hg hcr hkp how
    by_cases hlt : i < xs.length
    · have hne : xs ≠ [] := by intro e; rw [e] at hlt; simp at hlt
      obtain ⟨x, hx⟩ : ∃ x, xs[i]? = some x := ⟨xs[i], List.getElem?_eq_getElem hlt⟩
      have st := HKP.out.stays
      obtain ⟨b, off, eo, hbn, hbl, hcs⟩ := (HM.out.frame st (fun _ h => h) (reads_frame st (fun _ h => h) h).2.1) hne
      subst eo
      obtain ⟨cs, hlen, hkey, hrd⟩ := hcs i x hx
      obtain ⟨y, p0, g0, p1, g1, p2, g2, p3, g3, p4, g4, rfl⟩ := de_form hrd
      have q0 := hkey 0 _ rfl
      have q1 := hkey 1 _ rfl
      have q2 := hkey 2 _ rfl
      have q3 := hkey 3 _ rfl
      have q4 := hkey 4 _ rfl
      have q5 := hkey 5 _ rfl
      have q6 := hkey 6 _ rfl
      have q7 := hkey 7 _ rfl
      have q8 := hkey 8 _ rfl
      rw [Nat.add_zero] at q0
      have HX := hide hx
      have HRD := hide hrd
      clear hcs hx hne hkey hlen hrd st
      have hlt2 : (i : Int) < xs.length := by omega
      have HA0 : Hid (Below wr.heap.size wr (wr.alloc (.cells #[.string x.s, .slice p0 x.ss.length g0, .int .i64 y.k, .string y.s, .int .i64 y.n, .slice p1 y.l.length g1, .slice p2 y.ds.length g2, .slice p3 y.al.length g3, .slice p4 x.ds.length g4] 49))) := (Below.refl _ wr).alloc (Nat.le_refl _) _
      have HX0 : Hid ((wr.alloc (.cells #[.string x.s, .slice p0 x.ss.length g0, .int .i64 y.k, .string y.s, .int .i64 y.n, .slice p1 y.l.length g1, .slice p2 y.ds.length g2, .slice p3 y.al.length g3, .slice p4 x.ds.length g4] 49)).heap[wr.heap.size]? = some (.cells #[.string x.s, .slice p0 x.ss.length g0, .int .i64 y.k, .string y.s, .int .i64 y.n, .slice p1 y.l.length g1, .slice p2 y.ds.length g2, .slice p3 y.al.length g3, .slice p4 x.ds.length g4] 49 (0, 0))) := heap_alloc_new wr _
      have hcbw : cb < wr.heap.size := heap_lt HCR.out
      go_wp2_with fail
      refine (HD.out x _ _ cb (n + sumZ (cnt h).de (xs.take i)) d ((reads_later HA0.out h).2.1 _ _ HRD.out) (HCR.out.later HA0.out) hle (by omega) (by omega)).mono ?_
      rintro e w1 ⟨n', rfl, hc1, hn1, hk1⟩
      have hgn := goodTo_next HX.out HG.out
      rw [← hgn]
      have HN1 : Hid (goodTo (okz h).de (cnt h).de xs d n (i + 1) = true → n' = n + sumZ (cnt h).de (xs.take i) + (cnt h).de x) := by rw [hgn]; exact hn1
      have HC1 := hide hc1
      have HK1 := hide ((HKP.out.then HA0.out).on hk1)
      have HX1 := hide ((hk1.block wr.heap.size (heap_lt HX0.out) (by omega)).trans HX0.out)
      have HOW1 := hide (owns_block HOW.out (w' := w1) fun g hg => by
        have hg2 := owns_lt HOW.out g hg
        exact (hk1.block g (Nat.lt_of_lt_of_le hg2.1 HA0.out.size) (by omega)).trans (HA0.out.block g hg2.1))
      clear hc1 hn1 hk1 hgn
      cases hgg : goodTo (okz h).de (cnt h).de xs d n (i + 1)
      · have HGG := hide hgg
        clear hgg
        go_wp2
        go_ret
        have hf : (decsB (okz h).de xs m d && decide (n + sumZ (cnt h).de xs ≤ 200)) = false := by
          have h2 := goodTo_false HGG.out
          unfold goodB at h2
          unfold decsB
          cases ha : allZ (okz h).de xs d
          · simp
          · rw [ha, Bool.true_and] at h2
            rw [h2, Bool.and_false]
        exact ⟨n', ret_bool hf.symm, HC1.out, (fun hx => by rw [hf] at hx; cases hx), HK1.out⟩
      · have HGG := hide hgg
        clear hgg
        have r0 := cell_of HX1.out 0
        simp only [List.getElem?_toArray, List.getElem?_cons_zero] at r0
        go_wp2_with (at_builtin; refine wpList_append_own_at _ rfl (.tmp 33) (.tmp 36) 43 rfl w.heap.size 9 i0 _ 1 16 Tryz.underlying43 hi0 hz0 hz1 hz2 rfl (by decide) _ i (((xs.map Tr.s).take i).map Value.string) rfl (HOW1.out.alloc _) ⟨w1.heap.size, 0, none⟩ 1 1 [.string x.s] rfl rfl (cell1_at w1 _ _) (str_one _) (by unfold maxLen; omega) (by omega) (by have := HK1.out.size; simp; omega) ?_)
        intro v' w2 hown' hgrow hnil hloc
        have HA2 : Hid (Below w1.heap.size w1 (w1.alloc (.cells #[.string x.s] 9))) := (Below.refl _ w1).alloc (Nat.le_refl _) _
        have hrow : ∀ k, k < w.heap.size → some k ≠ Value.ownBlock _ := fun k hk e => absurd (owns_lt HOW1.out k e.symm).2 (by omega)
        have HC2 : Hid (Ctr w2 cb n') := (hgrow.block cb (Nat.lt_of_lt_of_le (heap_lt HC1.out) HA2.out.size) (hrow cb hcb)).trans (HC1.out.later HA2.out)
        have HK2 : Hid (Kp w.heap.size cb w w2) := by
          refine HK1.out.trans ((Kp.of (HA2.out.mono HK1.out.size)).trans ?_)
          exact ⟨hgrow.os, hgrow.tape, hgrow.output, hgrow.size, fun k hk _ => hgrow.block k (Nat.lt_of_lt_of_le hk (Nat.le_trans HK1.out.size HA2.out.size)) (hrow k hk)⟩
        have HOW2 := hide hown'
        clear hown' hgrow hnil hloc hrow
        go_wp2
        refine ⟨⟨i + 1, by omega, by go_num, HGG.out, ?_, ?_, HK2.out⟩, by simp [intOf]; omega⟩
        · have h2 := HC2.out
          rw [HN1.out HGG.out] at h2
          rw [sumZ_take _ _ _ _ HX.out, ← Nat.add_assoc]
          exact h2
        · have h2 := HOW2.out
          have he : ((xs.map Tr.s).take (i + 1)).map Value.string = ((xs.map Tr.s).take i).map Value.string ++ [.string x.s] := by
            rw [List.take_add_one, List.getElem?_map, HX.out]
            simp
          have he2 : List.take i (List.map (Value.string ∘ Tr.s) xs) = List.map Value.string (List.take i (List.map Tr.s xs)) := by simp [List.map_take]
          rw [he, ← he2]
          exact h2
    · have hie : i = xs.length := by omega
      have hG := HG.out
      rw [hie, goodTo_len] at hG
      have hall : allZ (okz h).de xs d = true ∧ decide (n + sumZ (cnt h).de xs ≤ 200) = true := by
        unfold goodB at hG
        rw [Bool.and_eq_true] at hG
        exact hG
      have HALL := hide hall
      have hC := HCR.out
      rw [hie, List.take_length] at hC
      have HC3 := hide hC
      have hO := HOW.out
      rw [hie] at hO
      have hlen : xs.length = (xs.map Tr.s).length := by rw [List.length_map]
      have htk : (xs.map Tr.s).take xs.length = xs.map Tr.s := by rw [hlen, List.take_length]
      rw [htk] at hO
      have hsz : ∀ s ∈ xs.map Tr.s, s.size ≤ maxLen := by
        intro s hs
        obtain ⟨y, hy, rfl⟩ := List.mem_map.1 hs
        obtain ⟨j, hj⟩ := List.mem_iff_getElem?.1 hy
        exact HSZ.out j y hj
      rw [hlen] at hO
      obtain ⟨oo, cap, hv, hml, hcp, hrow⟩ := strs_of hO hsz
      rw [List.length_map] at hv
      subst hv
      have HML := hide hml
      have HCP := hide hcp
      have HROW := hide hrow
      have hlt2 : ¬ (i : Int) < xs.length := by omega
      clear hG hall hC hO hsz hrow htk hie hlen hml hcp
      go_wp2_with fail
      refine (noTwo_any (xs.map Tr.s) xs.length (List.length_map _) oo cap _ HML.out HCP.out HROW.out).mono ?_
      rintro e w1 ⟨rfl, hw1⟩
      rw [hw1]
      clear hw1 w1
      go_wp2
      go_ret
      have hnd : noTwoB (xs.map Tr.s) = (decsB (okz h).de xs m d && decide (n + sumZ (cnt h).de xs ≤ 200)) := by
        unfold decsB
        rw [HIN.out, HALL.out.1, HALL.out.2, Bool.true_and, Bool.true_and, Bool.and_true]
        unfold noTwoB noDupB
        symm
        apply noDup_noTwo
        intro j hj
        rw [List.length_map] at hj
        rw [name_at (List.getElem?_eq_getElem hj)]
        have h2 := HALL.out.1
        unfold allZ at h2
        rw [List.all_eq_true] at h2
        exact HNM.out _ _ (h2 _ (List.getElem_mem hj))
      exact ⟨_, ret_bool hnd, HC3.out, fun _ => rfl, HKP.out⟩
end Go.Proofs.YteoghpefilghdakGreatDoor

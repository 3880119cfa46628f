/- The program's below: the layer below one. -/
import Derived.Test.YtegcebeaelpjhajNF
import Derived.Test.YtegcebeaelpjhajNE
import Derived.Deep.DeepCutAuto
import Derived.Deep.CutBlock
namespace Go.Proofs.Ytegcebeaelpjhaj
open Go.ChangeShapes Go.WideShapes Go.ChangeAt Go.RowKit

def kidsOf (k : Addr → List Addr) (l : List (Addr × Nat)) : List (Addr × Nat) := l.flatMap fun p => times p.2 (k p.1)
theorem kidsOf_app (k : Addr → List Addr) (l r : List (Addr × Nat)) : kidsOf k (l ++ r) = kidsOf k l ++ kidsOf k r := by simp [kidsOf]
theorem kidsOf_one (k : Addr → List Addr) (p : Addr × Nat) : kidsOf k [p] = times p.2 (k p.1) := by simp [kidsOf]
theorem kidsOf_nil (k : Addr → List Addr) : kidsOf k [] = [] := rfl
theorem wsum_perm {l r : List (Addr × Nat)} (h : l.Perm r) (f : Addr → Nat) : wsum f l = wsum f r := (h.map fun p : Addr × Nat => p.2 * f p.1).sum_nat
theorem keys_perm {l r : List (Addr × Nat)} (h : l.Perm r) (x : Addr) : x ∈ keysOf l ↔ x ∈ keysOf r := (h.map Prod.fst).mem_iff
theorem kidsOf_perm {l r : List (Addr × Nat)} (h : l.Perm r) (k : Addr → List Addr) : (kidsOf k l).Perm (kidsOf k r) := h.flatMap_right _
theorem Plus.perm {D D' l r : List (Addr × Nat)} (h : Plus D D' l) (hp : l.Perm r) : Plus D D' r := ⟨fun f => by rw [h.sums f, wsum_perm hp], fun x => by rw [h.keys x, keys_perm hp]⟩
/-- No more comes of a part than of the whole. -/
theorem kids_part {k : Addr → List Addr} {done rest l : List (Addr × Nat)} {p : Addr × Nat} (h : (done ++ [p] ++ rest).Perm l) (f : Addr → Nat) : wsum f (kidsOf k done) + wsum f (times p.2 (k p.1)) ≤ wsum f (kidsOf k l) := by
  rw [← wsum_perm (kidsOf_perm h k) f, kidsOf_app, kidsOf_app, wsum_app, wsum_app, kidsOf_one]
  omega
theorem rowA_len (o : Option Addr) (sz d n : Nat) : (rowA o sz d n).length = n := by simp [rowA]
theorem rowA_split (o : Option Addr) (sz d : Nat) {i n : Nat} (h : i ≤ n) : rowA o sz d n = rowA o sz d i ++ (rowA o sz d n).drop i := by
  have h1 : rowA o sz d i = (rowA o sz d n).take i := by
    unfold rowA
    rw [← List.map_take, List.take_range, Nat.min_eq_left h]
  rw [h1, List.take_append_drop]
theorem kids_pre {k : Addr → List Addr} {done rest l : List (Addr × Nat)} {a : Addr} {n : Nat} {L R : List Addr} (h : (done ++ [(a, n)] ++ rest).Perm l) (hL : k a = L ++ R) : wsum (fun _ => 1) (kidsOf k done ++ times n L) + n * R.length ≤ wsum (fun _ => 1) (kidsOf k l) ∧ ∀ x ∈ keysOf (kidsOf k done ++ times n L), x ∈ keysOf (kidsOf k l) := by
  have h1 : (kidsOf k done ++ (times n L ++ times n R) ++ kidsOf k rest).Perm (kidsOf k l) := by
    have h2 := kidsOf_perm h k
    rw [kidsOf_app, kidsOf_app, kidsOf_one] at h2
    simp only [hL, times_app] at h2
    exact h2
  refine ⟨?_, fun x hx => ?_⟩
  · rw [← wsum_perm h1, wsum_app, wsum_app, wsum_app, wsum_app, wsum_ones n R]
    omega
  · rw [← keys_perm h1, keys_app, keys_app, keys_app]
    rw [keys_app] at hx
    rcases hx with hx | hx
    · exact .inl (.inl hx)
    · exact .inl (.inr (.inl hx))
theorem mem_kids {k : Addr → List Addr} {l : List (Addr × Nat)} {x : Addr} (h : x ∈ keysOf (kidsOf k l)) : ∃ p ∈ l, x ∈ k p.1 := by
  obtain ⟨q, hq, rfl⟩ := List.mem_map.1 h
  obtain ⟨p, hp, hq2⟩ := List.mem_flatMap.1 hq
  obtain ⟨y, hy, rfl⟩ := List.mem_map.1 hq2
  exact ⟨p, hp, hy⟩
theorem plus_nil {E l : List (Addr × Nat)} (h : Plus [] E l) : wsum (fun _ => 1) E = wsum (fun _ => 1) l ∧ ∀ x ∈ keysOf E, x ∈ keysOf l := by
  refine ⟨?_, fun x hx => ?_⟩
  · rw [h.sums, wsum_nil, Nat.zero_add]
  · rcases (h.keys x).1 hx with h1 | h1
    · cases h1
    · exact h1
theorem newLayer_some (w : World) : Calls Try.prog 38 #[] w fun e w' => ∃ m1 m2, e = .returned (.agg #[.map (some m1), .map (some m2)]) ∧ PMap w' m1 [] ∧ PMap w' m2 [] ∧ Below w.heap.size w w' ∧ w.heap.size ≤ m1 ∧ m1 < m2 ∧ m2 < w'.heap.size := by
  refine (newLayer_any w).mono ?_
  rintro e w' ⟨rfl, h1, h2, hb, hs⟩
  exact ⟨_, _, rfl, h1, h2, hb, by omega, by omega, by omega⟩

set_option maxHeartbeats 2000000 in
set_option maxRecDepth 100000 in
theorem below_any (W w : World) (KP : Nat → Prop) (m1 m2 : Nat) (E D : List (Addr × Nat)) (h1 : PMap w m1 E) (h2 : PMap w m2 D) (hWs : W.heap.size ≤ w.heap.size) (hW : ∀ b, KP b → w.heap[b]? = W.heap[b]?) (hp : ∀ b, KP b → PlainAt w ⟨b, 0, none⟩) (hE : ∀ p ∈ E, ∃ h t, AtE W KP h p.1 t) (hD : ∀ p ∈ D, ∃ h t, AtD W KP h p.1 t)
    (hnE : wsum (fun _ => 1) (kidsOf (kEE W) E ++ kidsOf kDE D) ≤ 4611686018427387904) (hnD : wsum (fun _ => 1) (kidsOf (kED W) E ++ kidsOf (kDD W) D) ≤ 4611686018427387904) :
    Calls Try.prog 41 #[.agg #[.map (some m1), .map (some m2)]] w fun e w' => ∃ n1 n2 E' D', e = .returned (.agg #[.map (some n1), .map (some n2)]) ∧ PMap w' n1 E' ∧ PMap w' n2 D' ∧ Below w.heap.size w w' ∧ w.heap.size ≤ n1 ∧ n1 < n2 ∧ Plus [] E' (kidsOf (kEE W) E ++ kidsOf kDE D) ∧ Plus [] D' (kidsOf (kED W) E ++ kidsOf (kDD W) D) := by
  have l1 := h1.lt
  have l2 := h2.lt
  generalize hV : (w.alloc (.cells #[.map (some m1), .map (some m2)] 97)).alloc (.cells #[.map none, .map none] 97) = V
  have hbV : Below w.heap.size w V := by rw [← hV]; exact ((Below.refl _ w).alloc (Nat.le_refl _) _).alloc (by simp) _
  have hsV : V.heap.size = w.heap.size + 2 := by rw [← hV]; simp
  have ha : V.heap[w.heap.size]? = some (.cells #[.map (some m1), .map (some m2)] 97 (0, 0)) := by rw [← hV]; exact (Below.heap_alloc _ _ _ (by simp)).trans (heap_alloc_new w _)
  have hb : V.heap[w.heap.size + 1]? = some (.cells #[.map none, .map none] 97 (0, 0)) := by rw [← hV]; exact heap_alloc2_new w _ _
  have HKW : Hid (∀ b, KP b → b < w.heap.size) := fun b hb => by
    obtain ⟨c, e, h⟩ := hp b hb
    exact heap_lt h
  have HP : Hid (∀ b, KP b → PlainAt w ⟨b, 0, none⟩) := hp
  have HW := hide hW
  have HE := hide hE
  have HD := hide hD
  have HNE := hide hnE
  have HND := hide hnD
  have HBV := hide hbV
  have HA := hide ha
  have HB := hide hb
  have HM1 := hide (h1.keep (hbV.block m1 l1))
  have HM2 := hide (h2.keep (hbV.block m2 l2))
  clear h1 h2 hW hp hE hD hnE hnD hbV ha hb
  go_enter Try.func41, Try.ntmps41
  go_wp2_with fail
  refine (newLayer_some V).mono ?_
  rintro e w1 ⟨n1, n2, rfl, hn1, hn2, hb1, hge, hlt, hlt2⟩
  rw [hsV] at hb1 hge
  generalize hV0 : w1.alloc (.cells #[.map (some n1), .map (some n2)] 97) = V0
  have hbV0 : Below w1.heap.size w1 V0 := by rw [← hV0]; exact (Below.refl _ w1).alloc (Nat.le_refl _) _
  have hsV0 : V0.heap.size = w1.heap.size + 1 := by rw [← hV0]; simp
  have hc0 : V0.heap[w1.heap.size]? = some (.cells #[.map (some n1), .map (some n2)] 97 (0, 0)) := by rw [← hV0]; exact heap_alloc_new w1 _
  have hz1 := hb1.size
  obtain ⟨V1, rest0, hrange, hgo, hbR, hsR⟩ := ((HM1.out.keep (hb1.block m1 (by omega))).keep (hbV0.block m1 (by omega))).range Try.underlying94
  rw [hsV0] at hrange hgo hsR hbR
  have x0 := cell_of ((hbV0.block w.heap.size (by omega)).trans ((hb1.block w.heap.size (by omega)).trans HA.out)) 0
  simp only [List.getElem?_toArray, List.getElem?_cons_zero] at x0
  have HGO := hide hgo
  have HA1 := hide ((hbR.block w.heap.size (by omega)).trans ((hbV0.block w.heap.size (by omega)).trans ((hb1.block w.heap.size (by omega)).trans HA.out)))
  have HB1 := hide ((hbR.block (w.heap.size + 1) (by omega)).trans ((hbV0.block (w.heap.size + 1) (by omega)).trans ((hb1.block (w.heap.size + 1) (by omega)).trans HB.out)))
  have HC1 := hide ((hbR.block w1.heap.size (by omega)).trans hc0)
  have HN1 := hide ((hn1.keep (hbV0.block n1 (by omega))).keep (hbR.block n1 (by omega)))
  have HN2 := hide ((hn2.keep (hbV0.block n2 (by omega))).keep (hbR.block n2 (by omega)))
  have HMM := hide (((HM2.out.keep (hb1.block m2 (by omega))).keep (hbV0.block m2 (by omega))).keep (hbR.block m2 (by omega)))
  have HBR : Hid (Below w.heap.size w V1) := HBV.out.trans ((hb1.mono (by omega)).trans ((hbV0.mono (by omega)).trans (hbR.mono (by omega))))
  have hsV1 : V1.heap.size = w1.heap.size + 2 := by omega
  clear hn1 hn2 hb1 hbV0 hc0 hgo hbR HM1 HM2
  go_wp2
  clear x0 hrange
  go_loopw [] (fun wr => ∃ done rest E' D', Goes wr (w1.heap.size + 1) m1 E done rest ∧ PMap wr n1 E' ∧ PMap wr n2 D' ∧ Plus [] E' (kidsOf (kEE W) done) ∧ Plus [] D' (kidsOf (kED W) done) ∧ Keeps (fun k => k < V1.heap.size ∧ k ≠ n1 ∧ k ≠ n2 ∧ k ≠ w1.heap.size + 1) V1 wr) (fun wr => restLen wr (w1.heap.size + 1) m1)
  case atStart => exact ⟨[], rest0, [], [], HGO.out, HN1.out, HN2.out, Plus.refl [], Plus.refl [], Keeps.refl _ _⟩
  case round =>
    obtain ⟨done, rest, E', D', hgo, hn1, hn2, hpE, hpD, hkp⟩ := hrel
    have hleft := hgo.left
    have hz2 := hkp.size
    rcases hgo.next (P := Try.prog) with ⟨hr0, hnx⟩ | ⟨p, rest', u1, hper, hnx, hgo1, hbu, hsz, hen⟩
    · subst hr0
      have hperm := hgo.perm
      rw [List.append_nil] at hperm
      have HPERM := hide hperm
      obtain ⟨V2, rest2, hrange2, hgo2, hb2, hs2⟩ := (HMM.out.keep (hkp.block m2 ⟨by omega, by omega, by omega, by omega⟩)).range Try.underlying95
      have x1 : wr.cell? ⟨w.heap.size, 1, none⟩ = some (.map (some m2)) := by
        have h8 := cell_of ((hkp.block w.heap.size ⟨by omega, by omega, by omega, by omega⟩).trans HA1.out) 1
        simpa using h8
      have HGO2 := hide hgo2
      have hln1 := hn1.lt
      have hln2 := hn2.lt
      have HN1 := hide (hn1.keep (hb2.block n1 hln1))
      have HN2 := hide (hn2.keep (hb2.block n2 hln2))
      have HPE := hide hpE
      have HPD := hide hpD
      have HB2 := hide ((hb2.block (w.heap.size + 1) (by omega)).trans ((hkp.block (w.heap.size + 1) ⟨by omega, by omega, by omega, by omega⟩).trans HB1.out))
      have HC2 := hide ((hb2.block w1.heap.size (by omega)).trans ((hkp.block w1.heap.size ⟨by omega, by omega, by omega, by omega⟩).trans HC1.out))
      have HBR2 : Hid (Below w.heap.size w V2) := HBR.out.trans (Below.trans ⟨hkp.os, hkp.tape, hkp.output, hkp.size, fun k hk => hkp.block k ⟨by have e9 := HBR.out.size; omega, by omega, by omega, by omega⟩⟩ (hb2.mono (by have e9 := HBR.out.size; omega)))
      generalize hR : wr.heap.size = r2 at hrange2 hgo2 hs2 hz2 HGO2 hln1 hln2
      have hr2 : w1.heap.size + 1 < r2 := by omega
      clear hgo hn1 hn2 hpE hpD hkp hleft hperm hgo2 hb2
      go_wp2
      clear x1 hrange2 hnx
      have HRR := hide hR
      clear hR
      go_loopw [] (fun ws => ∃ doneD rest E2 D2, Goes ws r2 m2 D doneD rest ∧ PMap ws n1 E2 ∧ PMap ws n2 D2 ∧ Plus [] E2 (kidsOf (kEE W) done ++ kidsOf kDE doneD) ∧ Plus [] D2 (kidsOf (kED W) done ++ kidsOf (kDD W) doneD) ∧ Keeps (fun k => k < V2.heap.size ∧ k ≠ n1 ∧ k ≠ n2 ∧ k ≠ r2) V2 ws) (fun ws => restLen ws r2 m2)
      case atStart => exact ⟨[], rest2, E', D', HGO2.out, HN1.out, HN2.out, by rw [kidsOf_nil, List.append_nil]; exact HPE.out, by rw [kidsOf_nil, List.append_nil]; exact HPD.out, Keeps.refl _ _⟩
      case round =>
        obtain ⟨doneD, rest, E2, D2, hgo, hn1, hn2, hpE, hpD, hkp⟩ := hrel
        have hleft := hgo.left
        have hz3 := hkp.size
        rcases hgo.next (P := Try.prog) with ⟨hr0, hnx⟩ | ⟨p, rest', u1, hper, hnx, hgo1, hbu, hsz, hen⟩
        · subst hr0
          have hpermD := hgo.perm
          rw [List.append_nil] at hpermD
          have HPD2 := hide (hpD.perm ((kidsOf_perm HPERM.out _).append (kidsOf_perm hpermD _)))
          have HPE2 := hide (hpE.perm ((kidsOf_perm HPERM.out _).append (kidsOf_perm hpermD _)))
          have hcb := (hkp.block w1.heap.size ⟨by omega, by omega, by omega, by omega⟩).trans HC2.out
          have hrb := (hkp.block (w.heap.size + 1) ⟨by omega, by omega, by omega, by omega⟩).trans HB2.out
          have z0 := cell_of hcb 0
          have z1 := cell_of hcb 1
          have y0 := cell_of hrb 0
          have y1 := cell_of hrb 1
          simp only [List.getElem?_toArray, List.getElem?_cons_succ, List.getElem?_cons_zero] at z0 z1 y0 y1
          have f0 := frozen_of hrb 0
          have f1 := frozen_of hrb 1
          have HRB := hide hrb
          have HM1 := hide hn1
          have HM2 := hide hn2
          have HKP := hide hkp
          clear hgo hn1 hn2 hpE hpD hkp hleft hpermD hcb hrb
          go_wp2
          have hr3 := heap_set_same (j := 1) (.map (some n2)) (heap_set_same (j := 0) (.map (some n1)) HRB.out)
          refine bodyPost_ret (v := .agg #[.map (some n1), .map (some n2)]) ?_ rfl ?_
          · exact results_cell_row rfl _ _ (w.heap.size + 1) 97 _ (0, 0) _ rfl hr3 Try.underlying97 rfl (by kernel_rfl)
          · refine ⟨n1, n2, E2, D2, rfl, HM1.out.keep ?_, HM2.out.keep ?_, ?_, by omega, by omega, HPE2.out, HPD2.out⟩
            · rw [heap_set_other _ (by omega), heap_set_other _ (by omega)]
            · rw [heap_set_other _ (by omega), heap_set_other _ (by omega)]
            · refine ((HBR2.out.trans ⟨HKP.out.os, HKP.out.tape, HKP.out.output, HKP.out.size, fun k hk => HKP.out.block k ⟨by omega, by omega, by omega, by omega⟩⟩).setCell (Nat.le_add_right _ _) _).setCell (Nat.le_add_right _ _) _
        · obtain ⟨h, t, hat⟩ := HD.out p (hgo1.perm.mem_iff.1 (by simp))
          obtain ⟨⟨pb, po, ps⟩, n⟩ := p
          obtain rfl : ps = none := hat.1
          have hkb : KP pb := hat.2.1
          obtain ⟨h', te, o2, c2, rfl, O⟩ := hat.open
          have HLEFT : Hid (rest'.length < restLen wr r2 m2) := by
            have h7 := hper.length_eq
            rw [List.length_cons] at h7
            show rest'.length < restLen wr r2 m2
            rw [hleft]
            omega
          have hlr := hgo.lt
          have hln1 := hn1.lt
          have hln2 := hn2.lt
          have HU : Hid (Keeps (fun k => k < V2.heap.size ∧ k ≠ n1 ∧ k ≠ n2 ∧ k ≠ r2) V2 u1) := hkp.trans ⟨hbu.os, hbu.tape, hbu.output, hbu.size, fun k hk => hbu.block k ⟨by omega, hk.2.2.2⟩⟩
          have HKPU : Hid (∀ b, KP b → u1.heap[b]? = W.heap[b]?) := fun b hb => by
            have h9 := HKW.out b hb
            exact (HU.out.block b ⟨by omega, by omega, by omega, by omega⟩).trans ((HBR2.out.block b h9).trans (HW.out b hb))
          have HGO1 := hide hgo1
          have HN1U := hide (hn1.keep (hbu.block n1 ⟨hln1, by omega⟩))
          have HN2U := hide (hn2.keep (hbu.block n2 ⟨hln2, by omega⟩))
          have HPE := hide hpE
          have HPD := hide hpD
          have HKK : Hid (kDD W ⟨pb, po, none⟩ = rowA o2 9 0 t.ds.length) := kid_eq O.d
          have HO := hide O
          have HKB := hide hkb
          have hpb := HKW.out pb hkb
          have hzu : u1.heap.size = wr.heap.size := hsz
          have hplain : ∀ a : Addr, KP a.block → PlainAt u1.drew a := fun a ha => by
            obtain ⟨c, e, h9⟩ := HP.out a.block ha
            exact ⟨c, e, (HKPU.out a.block ha).trans ((HW.out a.block ha).symm.trans h9)⟩
          have hcb := (HU.out.block w1.heap.size ⟨by omega, by omega, by omega, by omega⟩).trans HC2.out
          have z0 := cell_of hcb 0
          have z1 := cell_of hcb 1
          simp only [List.getElem?_toArray, List.getElem?_cons_succ, List.getElem?_cons_zero] at z0 z1
          have hpre := kids_pre (k := kDE) HGO1.out.perm (L := []) (R := [⟨pb, po + 2, none⟩]) rfl
          have hpn := plus_nil hpE
          have hprE := (wsum_perm (kidsOf_perm HPERM.out (kEE W)) (fun _ => 1))
          have hbound : Hid (getA E2 ⟨pb, po + 2, none⟩ + n ≤ 4611686018427387904) := by
            have e1 := getA_le E2 ⟨pb, po + 2, none⟩
            have e2 := HNE.out
            rw [wsum_app] at e2
            have e3 := hpre.1
            simp only [times, List.map_nil, List.append_nil, List.length_cons, List.length_nil] at e3
            show getA E2 ⟨pb, po + 2, none⟩ + n ≤ 4611686018427387904
            rw [hpn.1, wsum_app] at e1
            omega
          have HADD := hide (addExp_any u1.drew n1 (.map (some n2)) E2 ⟨pb, po + 2, none⟩ n HN1U.out (hplain _ hkb) (fun x hx => hplain x (by
            rcases (keys_app _ _ _).1 (hpn.2 x hx) with h9 | h9
            · obtain ⟨p, hp, hx2⟩ := mem_kids ((keys_perm (kidsOf_perm HPERM.out (kEE W)) x).1 h9)
              obtain ⟨h8, t8, a8⟩ := HE.out p hp
              obtain ⟨h7, t7, a7⟩ := (atE_kids a8).1 x hx2
              exact a7.2.1
            · obtain ⟨p, hp, hx2⟩ := mem_kids (hpre.2 x (by simpa [times] using h9))
              obtain ⟨h8, t8, a8⟩ := HD.out p hp
              obtain ⟨h7, t7, a7⟩ := (atD_kids a8).1 x hx2
              exact a7.2.1)) hbound.out)
          clear hgo hn1 hn2 hpE hpD hkp hleft hper hgo1 hbu hat hkb O hpre hpn hprE hplain hcb
          have HGETK : Hid (∀ x ∈ keysOf D2, KP x.block) := fun x hx => by
            have hpn2 := plus_nil HPD.out
            have hpre2 := kids_pre (k := kDD W) HGO1.out.perm (L := []) (R := rowA o2 9 0 t.ds.length) (by rw [HKK.out]; rfl)
            rcases (keys_app _ _ _).1 (hpn2.2 x hx) with h9 | h9
            · obtain ⟨p, hp, hx2⟩ := mem_kids ((keys_perm (kidsOf_perm HPERM.out (kED W)) x).1 h9)
              obtain ⟨h8, t8, a8⟩ := HE.out p hp
              obtain ⟨h7, t7, a7⟩ := (atE_kids a8).2 x hx2
              exact a7.2.1
            · obtain ⟨p, hp, hx2⟩ := mem_kids (hpre2.2 x (by simpa [times] using h9))
              obtain ⟨h8, t8, a8⟩ := HD.out p hp
              obtain ⟨h7, t7, a7⟩ := (atD_kids a8).2 x hx2
              exact a7.2.1
          have HGETB : Hid (wsum (fun _ => 1) D2 + n * t.ds.length ≤ 4611686018427387904) := by
            have hpn2 := plus_nil HPD.out
            have hpre2 := kids_pre (k := kDD W) HGO1.out.perm (L := []) (R := rowA o2 9 0 t.ds.length) (by rw [HKK.out]; rfl)
            have hprE := (wsum_perm (kidsOf_perm HPERM.out (kED W)) (fun _ => 1))
            have e2 := HND.out
            rw [wsum_app] at e2
            have e3 := hpre2.1
            rw [rowA_len] at e3
            simp only [times, List.map_nil, List.append_nil] at e3
            show wsum (fun _ => 1) D2 + n * t.ds.length ≤ 4611686018427387904
            rw [hpn2.1, wsum_app]
            omega
          go_wp2
          go_upto_region 19 with fail
          go_cut [] (fun ws => PMap ws n1 (setA E2 ⟨pb, po + 2, none⟩ (getA E2 ⟨pb, po + 2, none⟩ + n)) ∧ But n1 u1 ws)
          case first =>
            go_region_with (refine HADD.out.mono ?_; rintro e' w5 ⟨rfl, hp5, hb5⟩; have HP5 := hide hp5; have HB5 := hide hb5; clear hp5 hb5)
            all_goals
              go_wp2_with fail
              go_meet
              case rel => exact ⟨HP5.out, (But.of (Below.refl _ u1).drew).trans HB5.out⟩
          case rest =>
            obtain ⟨hp5, hb5⟩ := hcut
            generalize wc = w5 at hp5 hb5 ⊢
            have HP5 := hide hp5
            have HB5 := hide hb5
            have hz5 := hb5.size
            have hln1 := hp5.lt
            have hln2 := HN2U.out.lt
            have hq : ∀ k, (KP k ∨ k = w1.heap.size) → w5.heap[k]? = u1.heap[k]? := fun k hk => by
              refine hb5.block k ⟨?_, ?_⟩
              · rcases hk with hk | hk
                · have := HKW.out k hk; omega
                · omega
              · rcases hk with hk | hk
                · have := HKW.out k hk; omega
                · omega
            have hplain : ∀ a : Addr, KP a.block → PlainAt w5.drew a := fun a ha => by
              obtain ⟨c, e, h9⟩ := HP.out a.block ha
              exact ⟨c, e, (hq a.block (.inl ha)).trans ((HKPU.out a.block ha).trans ((HW.out a.block ha).symm.trans h9))⟩
            have q8 := (World.cell?_of_block (a := ⟨pb, po + 8, none⟩) ((hq pb (.inl HKB.out)).trans (HKPU.out pb HKB.out))).trans HO.out.d
            have hcb := (hq w1.heap.size (.inr rfl)).trans ((HU.out.block w1.heap.size ⟨by omega, by omega, by omega, by omega⟩).trans HC2.out)
            have z0 := cell_of hcb 0
            have z1 := cell_of hcb 1
            simp only [List.getElem?_toArray, List.getElem?_cons_succ, List.getElem?_cons_zero] at z0 z1
            have st : Stays KP W w5.drew := ⟨by have e9 := HBR.out.size; show W.heap.size ≤ w5.heap.size; omega, fun b hb _ => (hq b (.inl hb)).trans (HKPU.out b hb)⟩
            have HADD2 := hide (addDecs_any w5.drew KP (.map (some n1)) n2 D2 o2 c2 n t.ds (R := (reads KP w5.drew h').de) (HN2U.out.keep (hb5.block n2 ⟨by omega, by omega⟩)) (HO.out.rd.frame st (fun _ h => h) (reads_frame st (fun _ h => h) h').2.1) HO.out.dl (fun b hb => hplain ⟨b, 0, none⟩ hb) (fun hb => by have := HKW.out n2 hb; omega) HGETK.out HGETB.out)
            clear hp5 hb5 hq hplain hcb st
            go_wp2
            go_region_with (refine HADD2.out.mono ?_; rintro e' w7 ⟨rfl, D3, hp7, hb7, hpl7⟩; have HP7 := hide hp7; have HB7 := hide hb7; have HPL7 := hide hpl7; clear hp7 hb7 hpl7)
            all_goals
              go_wp2
              have hz7 := HB7.out.size
              have hz7' : w5.heap.size ≤ w7.heap.size := hz7
              have hgo5 := HGO1.out.keep (w' := w7) ((HB7.out.block _ ⟨by show _ < w5.heap.size; omega, by omega⟩).trans (HB5.out.block _ ⟨by omega, by omega⟩)) ((HB7.out.block _ ⟨by show _ < w5.heap.size; omega, by omega⟩).trans (HB5.out.block _ ⟨by omega, by omega⟩))
              go_roundw
              case rel =>
                refine ⟨doneD ++ [(⟨pb, po, none⟩, n)], rest', _, D3, hgo5, HP5.out.keep (HB7.out.block n1 ⟨hln1, by omega⟩), HP7.out, ?_, ?_, HU.out.trans ⟨HB7.out.os.trans HB5.out.os, HB7.out.tape.trans HB5.out.tape, HB7.out.output.trans HB5.out.output, by omega, fun k hk => (HB7.out.block k ⟨by show k < w5.heap.size; omega, hk.2.2.1⟩).trans (HB5.out.block k ⟨by omega, hk.2.1⟩)⟩⟩
                · rw [kidsOf_app, kidsOf_one, ← List.append_assoc]
                  exact HPE.out.trans (Plus.add E2 _ n)
                · rw [kidsOf_app, kidsOf_one, HKK.out, ← List.append_assoc]
                  exact HPD.out.trans HPL7.out
              case measure =>
                rw [hgo5.left]
                exact HLEFT.out
    · obtain ⟨h, t, hat⟩ := HE.out p (hgo1.perm.mem_iff.1 (by simp))
      obtain ⟨⟨pb, po, ps⟩, n⟩ := p
      obtain rfl : ps = none := hat.1
      have hkb : KP pb := hat.2.1
      obtain ⟨h', o1, c1, o2, c2, o3, c3, rfl, O⟩ := hat.open
      have HLEFT : Hid (rest'.length < restLen wr (w1.heap.size + 1) m1) := by
        have h7 := hper.length_eq
        rw [List.length_cons] at h7
        show rest'.length < restLen wr (w1.heap.size + 1) m1
        rw [hleft]
        omega
      have hlr := hgo.lt
      have hln1 := hn1.lt
      have hln2 := hn2.lt
      have HU : Hid (Keeps (fun k => k < V1.heap.size ∧ k ≠ n1 ∧ k ≠ n2 ∧ k ≠ w1.heap.size + 1) V1 u1) := hkp.trans ⟨hbu.os, hbu.tape, hbu.output, hbu.size, fun k hk => hbu.block k ⟨by omega, hk.2.2.2⟩⟩
      have HKPU : Hid (∀ b, KP b → u1.heap[b]? = W.heap[b]?) := fun b hb => by
        have h9 := HKW.out b hb
        exact (HU.out.block b ⟨by omega, by omega, by omega, by omega⟩).trans ((HBR.out.block b h9).trans (HW.out b hb))
      have HGO1 := hide hgo1
      have HN1U := hide (hn1.keep (hbu.block n1 ⟨hln1, by omega⟩))
      have HN2U := hide (hn2.keep (hbu.block n2 ⟨hln2, by omega⟩))
      have HPE := hide hpE
      have HPD := hide hpD
      have HO := hide O
      have q3 := (World.cell?_of_block (a := ⟨pb, po + 3, none⟩) (HKPU.out pb hkb)).trans O.l
      have hll : t.l.length ≤ 9223372036854775807 := O.ll
      have hal : t.al.length ≤ 9223372036854775807 := O.all
      have HKB := hide hkb
      have hpb := HKW.out pb hkb
      have hzu : u1.heap.size = wr.heap.size := hsz
      clear hgo hn1 hn2 hpE hpD hkp hleft hper hgo1 hbu hat hkb O
      go_wp2
      clear hnx hen q3
      have HKK : Hid (kEE W ⟨pb, po, none⟩ = rowA o1 6 0 t.l.length ++ rowA o3 8 2 t.al.length ∧ kED W ⟨pb, po, none⟩ = rowA o2 9 0 t.ds.length) := ⟨by unfold kEE; rw [kid_eq HO.out.l, kid_eq HO.out.al], kid_eq HO.out.d⟩
      go_loopw [24] (fun x wr => ∃ (i : Nat) (E2 : List (Addr × Nat)), i ≤ t.l.length ∧ x = .int .i64 i ∧ PMap wr n1 E2 ∧ But n1 u1 wr ∧ Plus [] E2 (kidsOf (kEE W) done ++ times n (rowA o1 6 0 i))) (fun x _ => t.l.length - (intOf x).toNat)
      case atStart => exact ⟨0, E', Nat.zero_le _, rfl, HN1U.out, But.refl _ _, by simpa [rowA, times] using HPE.out⟩
      case round =>
        obtain ⟨i, E2, hi, rfl, hm, hbt, hpl⟩ := hrel
        have HM := hide hm
        have HBT := hide hbt
        have HPL := hide hpl
        have hzt := hbt.size
        have hq : ∀ k, (KP k ∨ k = w1.heap.size) → wr.heap[k]? = u1.heap[k]? := fun k hk => by
          refine hbt.block k ⟨?_, ?_⟩
          · rcases hk with hk | hk
            · have := HKW.out k hk; omega
            · omega
          · rcases hk with hk | hk
            · have := HKW.out k hk; omega
            · omega
        have q3 := (World.cell?_of_block (a := ⟨pb, po + 3, none⟩) ((hq pb (.inl HKB.out)).trans (HKPU.out pb HKB.out))).trans HO.out.l
        have q5 := (World.cell?_of_block (a := ⟨pb, po + 5, none⟩) ((hq pb (.inl HKB.out)).trans (HKPU.out pb HKB.out))).trans HO.out.al
        have hcb := (hq w1.heap.size (.inr rfl)).trans ((HU.out.block w1.heap.size ⟨by omega, by omega, by omega, by omega⟩).trans HC1.out)
        have z0 := cell_of hcb 0
        have z1 := cell_of hcb 1
        simp only [List.getElem?_toArray, List.getElem?_cons_succ, List.getElem?_cons_zero] at z0 z1
        clear hm hbt hpl hcb
        by_cases hlt3 : i < t.l.length
        · have hne : t.l ≠ [] := by intro e; rw [e] at hlt3; simp at hlt3
          obtain ⟨b, off, rfl, kb, -, -⟩ := HO.out.rl hne
          have hpre := kids_pre (k := kEE W) HGO1.out.perm (L := rowA (some ⟨b, off, none⟩) 6 0 i) (R := (rowA (some ⟨b, off, none⟩) 6 0 t.l.length).drop i ++ rowA o3 8 2 t.al.length) (by rw [HKK.out.1, ← List.append_assoc, ← rowA_split _ _ _ hi])
          have hpn := plus_nil HPL.out
          have hbound : Hid (getA E2 ⟨b, off + i * 6, none⟩ + n ≤ 4611686018427387904) := by
            have e1 := getA_le E2 ⟨b, off + i * 6, none⟩
            have e2 := HNE.out
            rw [wsum_app] at e2
            have e3 := hpre.1
            rw [List.length_append, List.length_drop, rowA_len] at e3
            have e4 : n ≤ n * (t.l.length - i + (rowA o3 8 2 t.al.length).length) := Nat.le_mul_of_pos_right n (by omega)
            show getA E2 ⟨b, off + i * 6, none⟩ + n ≤ 4611686018427387904
            rw [hpn.1] at e1
            omega
          have hplain : ∀ a : Addr, KP a.block → PlainAt wr.drew a := fun a ha => by
            obtain ⟨c, e, h9⟩ := HP.out a.block ha
            exact ⟨c, e, (hq a.block (.inl ha)).trans ((HKPU.out a.block ha).trans ((HW.out a.block ha).symm.trans h9))⟩
          have HADD := hide (addExp_any wr.drew n1 (.map (some n2)) E2 ⟨b, off + i * 6, none⟩ n HM.out (hplain _ kb) (fun x hx => hplain x (by
            obtain ⟨p, hp, hx2⟩ := mem_kids (hpre.2 x (hpn.2 x hx))
            obtain ⟨h8, t8, a8⟩ := HE.out p hp
            obtain ⟨h7, t7, a7⟩ := (atE_kids a8).1 x hx2
            exact a7.2.1)) hbound.out)
          have hlt4 : (i : Int) < t.l.length := by omega
          clear hpre hpn hplain q5 hne kb hq
          go_wp2
          go_region_with (refine HADD.out.mono ?_; rintro e' w5 ⟨rfl, hp5, hb5⟩; have HP5 := hide hp5; have HB5 := hide hb5; clear hp5 hb5)
          all_goals
            go_wp2
            refine ⟨⟨i + 1, _, by omega, by go_num, HP5.out, HBT.out.trans ((But.of (Below.refl _ wr).drew).trans HB5.out), ?_⟩, by simp [intOf]; omega⟩
            rw [rowA_succ, times_app, ← List.append_assoc]
            exact HPL.out.trans (Plus.add E2 _ n)
        · have hie : i = t.l.length := by omega
          subst hie
          have HZ := hide (And.intro z0 z1)
          generalize hw6 : wr = w6 at HM HBT
          clear q3 hq z0 z1
          subst hw6
          go_wp2
          clear q5
          go_loopw [42] (fun x ws => ∃ (i : Nat) (E3 : List (Addr × Nat)), i ≤ t.al.length ∧ x = .int .i64 i ∧ PMap ws n1 E3 ∧ But n1 u1 ws ∧ Plus [] E3 (kidsOf (kEE W) done ++ times n (rowA o1 6 0 t.l.length ++ rowA o3 8 2 i))) (fun x _ => t.al.length - (intOf x).toNat)
          case atStart => exact ⟨0, E2, Nat.zero_le _, rfl, HM.out, HBT.out, by simpa [rowA] using HPL.out⟩
          case round =>
            obtain ⟨i, E3, hi, rfl, hm, hbt, hpl⟩ := hrel
            have HM3 := hide hm
            have HBT3 := hide hbt
            have HPL3 := hide hpl
            have hzt := hbt.size
            have hq : ∀ k, (KP k ∨ k = w1.heap.size) → wr.heap[k]? = u1.heap[k]? := fun k hk => by
              refine hbt.block k ⟨?_, ?_⟩
              · rcases hk with hk | hk
                · have := HKW.out k hk; omega
                · omega
              · rcases hk with hk | hk
                · have := HKW.out k hk; omega
                · omega
            have q4 := (World.cell?_of_block (a := ⟨pb, po + 4, none⟩) ((hq pb (.inl HKB.out)).trans (HKPU.out pb HKB.out))).trans HO.out.d
            have q5 := (World.cell?_of_block (a := ⟨pb, po + 5, none⟩) ((hq pb (.inl HKB.out)).trans (HKPU.out pb HKB.out))).trans HO.out.al
            have hcb := (hq w1.heap.size (.inr rfl)).trans ((HU.out.block w1.heap.size ⟨by omega, by omega, by omega, by omega⟩).trans HC1.out)
            have z0 := cell_of hcb 0
            have z1 := cell_of hcb 1
            simp only [List.getElem?_toArray, List.getElem?_cons_succ, List.getElem?_cons_zero] at z0 z1
            have hplain : ∀ a : Addr, KP a.block → PlainAt wr.drew a := fun a ha => by
              obtain ⟨c, e, h9⟩ := HP.out a.block ha
              exact ⟨c, e, (hq a.block (.inl ha)).trans ((HKPU.out a.block ha).trans ((HW.out a.block ha).symm.trans h9))⟩
            clear hm hbt hpl hcb
            by_cases hlt3 : i < t.al.length
            · have hne : t.al ≠ [] := by intro e; rw [e] at hlt3; simp at hlt3
              obtain ⟨b, off, rfl, kb, -, -⟩ := HO.out.ra hne
              have hpre := kids_pre (k := kEE W) HGO1.out.perm (L := rowA o1 6 0 t.l.length ++ rowA (some ⟨b, off, none⟩) 8 2 i) (R := (rowA (some ⟨b, off, none⟩) 8 2 t.al.length).drop i) (by rw [HKK.out.1, List.append_assoc, ← rowA_split _ _ _ hi])
              have hpn := plus_nil HPL3.out
              have hbound : Hid (getA E3 ⟨b, off + i * 8 + 2, none⟩ + n ≤ 4611686018427387904) := by
                have e1 := getA_le E3 ⟨b, off + i * 8 + 2, none⟩
                have e2 := HNE.out
                rw [wsum_app] at e2
                have e3 := hpre.1
                rw [List.length_drop, rowA_len] at e3
                have e4 : n ≤ n * (t.al.length - i) := Nat.le_mul_of_pos_right n (by omega)
                show getA E3 ⟨b, off + i * 8 + 2, none⟩ + n ≤ 4611686018427387904
                rw [hpn.1] at e1
                omega
              have HADD := hide (addExp_any wr.drew n1 (.map (some n2)) E3 ⟨b, off + i * 8 + 2, none⟩ n HM3.out (hplain _ kb) (fun x hx => hplain x (by
                obtain ⟨p, hp, hx2⟩ := mem_kids (hpre.2 x (hpn.2 x hx))
                obtain ⟨h8, t8, a8⟩ := HE.out p hp
                obtain ⟨h7, t7, a7⟩ := (atE_kids a8).1 x hx2
                exact a7.2.1)) hbound.out)
              have hlt4 : (i : Int) < t.al.length := by omega
              clear hpre hpn hplain q4 hne kb hq
              go_wp2
              go_region_with (refine HADD.out.mono ?_; rintro e' w5 ⟨rfl, hp5, hb5⟩; have HP5 := hide hp5; have HB5 := hide hb5; clear hp5 hb5)
              all_goals
                go_wp2
                refine ⟨⟨i + 1, _, by omega, by go_num, HP5.out, HBT3.out.trans ((But.of (Below.refl _ wr).drew).trans HB5.out), ?_⟩, by simp [intOf]; omega⟩
                rw [rowA_succ, ← List.append_assoc, times_app, ← List.append_assoc]
                exact HPL3.out.trans (Plus.add E3 _ n)
            · have hie : i = t.al.length := by omega
              subst hie
              have hpre := kids_pre (k := kED W) HGO1.out.perm (L := []) (R := rowA o2 9 0 t.ds.length) (by rw [HKK.out.2]; rfl)
              have hpn := plus_nil HPD.out
              have st : Stays KP W wr.drew := ⟨by have e9 := HBR.out.size; show W.heap.size ≤ wr.heap.size; omega, fun b hb _ => (hq b (.inl hb)).trans (HKPU.out b hb)⟩
              have HADD := hide (addDecs_any wr.drew KP (.map (some n1)) n2 D' o2 c2 n t.ds (R := (reads KP wr.drew h').de) (HN2U.out.keep (HBT3.out.block n2 ⟨by omega, by omega⟩)) (HO.out.rd.frame st (fun _ h => h) (reads_frame st (fun _ h => h) h').2.1) HO.out.dl (fun b hb => hplain ⟨b, 0, none⟩ hb) (fun hb => by have := HKW.out n2 hb; omega) (fun x hx => by
                obtain ⟨p, hp, hx2⟩ := mem_kids (hpre.2 x (by simpa [times] using hpn.2 x hx))
                obtain ⟨h8, t8, a8⟩ := HE.out p hp
                obtain ⟨h7, t7, a7⟩ := (atE_kids a8).2 x hx2
                exact a7.2.1) (by
                have e2 := HND.out
                rw [wsum_app] at e2
                have e3 := hpre.1
                rw [rowA_len] at e3
                simp only [times, List.map_nil, List.append_nil] at e3
                rw [hpn.1]
                omega))
              clear hpre hpn hplain st q5 hq
              go_wp2
              go_region_with (refine HADD.out.mono ?_; rintro e' w5 ⟨rfl, D2, hp5, hb5, hpl5⟩; have HP5 := hide hp5; have HB5 := hide hb5; have HPL5 := hide hpl5; clear hp5 hb5 hpl5)
              all_goals
                go_wp2
                have hz5 := HB5.out.size
                have hz5' : wr.heap.size ≤ w5.heap.size := hz5
                have hln1 := HM3.out.lt
                have hgo5 := HGO1.out.keep (w' := w5) ((HB5.out.block _ ⟨by show _ < wr.heap.size; omega, by omega⟩).trans (HBT3.out.block _ ⟨by omega, by omega⟩)) ((HB5.out.block _ ⟨by show _ < wr.heap.size; omega, by omega⟩).trans (HBT3.out.block _ ⟨by omega, by omega⟩))
                go_roundw
                case rel =>
                  refine ⟨done ++ [(⟨pb, po, none⟩, n)], rest', E3, D2, hgo5, HM3.out.keep (HB5.out.block n1 ⟨hln1, by omega⟩), HP5.out, ?_, ?_, HU.out.trans ⟨HB5.out.os.trans HBT3.out.os, HB5.out.tape.trans HBT3.out.tape, HB5.out.output.trans HBT3.out.output, by omega, fun k hk => (HB5.out.block k ⟨by show k < wr.heap.size; omega, hk.2.2.1⟩).trans (HBT3.out.block k ⟨by omega, hk.2.1⟩)⟩⟩
                  · rw [kidsOf_app, kidsOf_one, HKK.out.1]
                    exact HPL3.out
                  · rw [kidsOf_app, kidsOf_one, HKK.out.2]
                    exact HPD.out.trans HPL5.out
                case measure =>
                  rw [hgo5.left]
                  exact HLEFT.out
end Go.Proofs.Ytegcebeaelpjhaj

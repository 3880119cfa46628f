/- The model's l3Data: is one of the datas right? -/
import Derived.Test.YteoghpefilghdakGreatDoorPG
import Derived.Test.YteoghpefilghdakGreatDoorYE
namespace Go.Proofs.YteoghpefilghdakGreatDoor
open Go.ChangeShapes Go.WideShapes Go.ChangeAt Go.RowKit

def argB (h : Nat) (t : Tr) : Bool := decide (wrZ h t 1 ≤ 10)
/-- A maker is right, as the model has it: among all of them it is defined once. -/
def conB (h : Nat) (ds : List Tr) (c : Tr) : Bool := ownB c.s && (decide (c.l.length ≤ 4) && (decide (cntS (consL ds) c.s = 1) && c.l.all (argB h)))
def dataB (h : Nat) (ds : List Tr) (i : Nat) (d : Tr) : Bool := !alikeB ((ds.take i).map Tr.s) d.s && (d.l.all (conB h ds) && (ownB d.s && inB d.l.length 1 5))
theorem all_next {f : Tr → Bool} {l : List Tr} {k : Nat} {c : Tr} (h : l[k]? = some c) (ht : (l.take k).all f = true) : (l.take (k + 1)).all f = f c := by
  rw [List.take_add_one, h, List.all_append, ht]
  simp
theorem all_false {f : Tr → Bool} {l : List Tr} {k : Nat} (h : (l.take k).all f = false) : l.all f = false := by
  have e : l = l.take k ++ l.drop k := (List.take_append_drop _ _).symm
  rw [e, List.all_append, h]
  rfl
theorem alike_next {l : List Tr} {k : Nat} {c : Tr} {s : ByteArray} (h : l[k]? = some c) (ht : alikeB ((l.take k).map Tr.s) s = false) : alikeB ((l.take (k + 1)).map Tr.s) s = (c.s.toList == s.toList) := by
  rw [names_take h]
  unfold alikeB at *
  rw [List.any_append, ht]
  simp
theorem alike_more {l : List Tr} {k i : Nat} {s : ByteArray} (h : alikeB ((l.take k).map Tr.s) s = true) (hk : k ≤ i) : alikeB ((l.take i).map Tr.s) s = true := by
  unfold alikeB at *
  rw [List.any_eq_true] at *
  obtain ⟨t, ht, he⟩ := h
  refine ⟨t, ?_, he⟩
  obtain ⟨u, hu, rfl⟩ := List.mem_map.1 ht
  refine List.mem_map.2 ⟨u, ?_, rfl⟩
  have e : l.take k = (l.take i).take k := by rw [List.take_take, Nat.min_eq_left hk]
  rw [e] at hu
  exact List.mem_of_mem_take hu

set_option maxHeartbeats 2000000 in
set_option maxRecDepth 100000 in
theorem data_any {K : Nat → Prop} {w : World} {h : Nat} {x : Tr} {cs : List Value} (i : Nat) (d : Tr) (hid : x.l[i]? = some d) (hr : prR K w h x cs) (hN : (consL x.l).length ≤ 1048576) :
    Calls Tryz.prog 25 #[.agg cs.toArray, .int .i64 i] w fun e w' => e = .returned (.bool (dataB h x.l i d)) ∧ Below w.heap.size w w' := by
  have HR := hide hr
  obtain ⟨-, -, -, -, -, o1, c1, o2, c2, rfl, hl, hd, q1, q2⟩ := hr
  have hilt : i < x.l.length := (List.getElem?_eq_some_iff.1 hid).1
  have hne : x.l ≠ [] := by intro e; rw [e] at hilt; simp at hilt
  obtain ⟨b, off, eo, -, hbl, hcs⟩ := q1 hne
  subst eo
  obtain ⟨cs, hlen, hkey, hrd⟩ := hcs i d hid
  obtain ⟨-, -, -, -, -, od, cd, rfl, hds, hfd, hrd⟩ := hrd
  have HQ := hide hcs
  have z0 := hkey 0 _ rfl
  have z1 := hkey 1 _ rfl
  rw [Nat.add_zero] at z0
  have HRD := hide hrd
  have HDS := hide hds
  have HID := hide hid
  have HN := hide hN
  have hl2 : x.l.length ≤ 9223372036854775807 := hl.1
  have hd2 : d.l.length ≤ 9223372036854775807 := hfd.1
  have hilt2 : (i : Int) < x.l.length := by omega
  have HB0 : Hid (Below w.heap.size w ((w.alloc (.cells #[.slice (some ⟨b, off, none⟩) x.l.length c1, .slice o2 x.ds.length c2] 31)).alloc (.cells #[.string d.s, .slice od d.l.length cd] 41))) := ((Below.refl _ w).alloc (Nat.le_refl _) _).alloc (by simp) _
  have HP0 : Hid (((w.alloc (.cells #[.slice (some ⟨b, off, none⟩) x.l.length c1, .slice o2 x.ds.length c2] 31)).alloc (.cells #[.string d.s, .slice od d.l.length cd] 41)).heap[w.heap.size]? = some (.cells #[.slice (some ⟨b, off, none⟩) x.l.length c1, .slice o2 x.ds.length c2] 31 (0, 0))) := (Below.heap_alloc _ _ _ (by simp)).trans (heap_alloc_new w _)
  have HD0 : Hid (((w.alloc (.cells #[.slice (some ⟨b, off, none⟩) x.l.length c1, .slice o2 x.ds.length c2] 31)).alloc (.cells #[.string d.s, .slice od d.l.length cd] 41)).heap[w.heap.size + 1]? = some (.cells #[.string d.s, .slice od d.l.length cd] 41 (0, 0))) := heap_alloc2_new w _ _
  clear hl hd q1 q2 hN hcs hkey hrd hds hfd hlen hne hid
  go_enter Tryz.func25, Tryz.ntmps25
  go_wp2
  clear z0 z1
  generalize ((w.alloc (.cells #[.slice (some ⟨b, off, none⟩) x.l.length c1, .slice o2 x.ds.length c2] 31)).alloc (.cells #[.string d.s, .slice od d.l.length cd] 41)) = W at HB0 HP0 HD0 ⊢
  go_loopw [6] (fun t6 wr => ∃ k : Nat, k ≤ i ∧ t6 = .int .i64 k ∧ alikeB ((x.l.take k).map Tr.s) d.s = false ∧ Below W.heap.size W wr) (fun t6 _ => i - (intOf t6).toNat)
  case atStart => exact ⟨0, Nat.zero_le _, rfl, rfl, Below.refl _ _⟩
  case round =>
    obtain ⟨k, hk, rfl, hal, hbw⟩ := hrel
    have HAL := hide hal
    have HBW := hide hbw
    have HP1 := hide ((hbw.block w.heap.size (heap_lt HP0.out)).trans HP0.out)
    have HD1 := hide ((hbw.block (w.heap.size + 1) (heap_lt HD0.out)).trans HD0.out)
    have HBT := hide (HB0.out.trans (hbw.mono HB0.out.size))
    clear hal hbw
    have p0 := cell_of HP1.out 0
    have d0 := cell_of HD1.out 0
    have d1 := cell_of HD1.out 1
    simp only [List.getElem?_toArray, List.getElem?_cons_succ, List.getElem?_cons_zero] at p0 d0 d1
    by_cases hlt : k < i
    · obtain ⟨dk, hx⟩ : ∃ dk, x.l[k]? = some dk := ⟨x.l[k], List.getElem?_eq_getElem (by omega)⟩
      obtain ⟨cs, hlen, hkey, hrd⟩ := HQ.out k dk hx
      obtain ⟨-, -, -, -, -, ok, ck, rfl, -, -, -⟩ := hrd
      have y0 := (HBT.out.cell (p := ⟨b, off + k * 2 + 0, none⟩) hbl).trans (hkey 0 _ rfl)
      rw [Nat.add_zero] at y0
      have HX := hide hx
      clear hkey hx hlen
      have hlt2 : (k : Int) < i := by omega
      have hkl : (k : Int) < x.l.length := by omega
      cases heq : (dk.s.toList == d.s.toList)
      all_goals
        have HEQ := hide heq
        go_wp2
        go_region
        go_wp2
      · go_roundw
        case rel => exact ⟨k + 1, by omega, by go_num, by rw [alike_next HX.out HAL.out]; exact HEQ.out, HBW.out.trans ((Below.refl _ _).drew.mono HBW.out.size)⟩
        case measure => simp [intOf]; omega
      · go_ret
        refine ⟨ret_bool ?_, HBT.out.trans ((Below.refl _ _).drew.mono HBT.out.size)⟩
        unfold dataB
        rw [alike_more (k := k + 1) (by rw [alike_next HX.out HAL.out]; exact HEQ.out) (by omega)]
        rfl
    · have hki : k = i := by omega
      subst hki
      have HRW := hide (HRD.out.later HBT.out (coR_later HBT.out h))
      have hlt2 : ¬ (k : Int) < k := by omega
      clear p0 d0 d1
      go_wp2
      generalize hwr : wr = V at HBT HP1 HD1 HRW ⊢
      clear hwr
      go_loopw [7] (fun t7 wr => ∃ j : Nat, j ≤ d.l.length ∧ t7 = .int .i64 j ∧ (d.l.take j).all (conB h x.l) = true ∧ Below V.heap.size V wr) (fun t7 _ => d.l.length - (intOf t7).toNat)
      case atStart => exact ⟨0, Nat.zero_le _, rfl, rfl, Below.refl _ _⟩
      case round =>
        obtain ⟨j, hj, rfl, hall, hbw⟩ := hrel
        have HALL := hide hall
        have HBV := hide hbw
        have HP2 := hide ((hbw.block w.heap.size (heap_lt HP1.out)).trans HP1.out)
        have HD2 := hide ((hbw.block (w.heap.size + 1) (heap_lt HD1.out)).trans HD1.out)
        have HB2 := hide (HBT.out.trans (hbw.mono HBT.out.size))
        have HRW2 := hide (HRW.out.later hbw (coR_later hbw h))
        clear hall hbw
        have d0 := cell_of HD2.out 0
        have d1 := cell_of HD2.out 1
        simp only [List.getElem?_toArray, List.getElem?_cons_succ, List.getElem?_cons_zero] at d0 d1
        by_cases hlj : j < d.l.length
        · have hne : d.l ≠ [] := by intro e; rw [e] at hlj; simp at hlj
          obtain ⟨c, hx⟩ : ∃ c, d.l[j]? = some c := ⟨d.l[j], List.getElem?_eq_getElem hlj⟩
          obtain ⟨b2, off2, eo, -, hbl2, hcs⟩ := HRW2.out hne
          subst eo
          obtain ⟨cs, hlen, hkey, hrd⟩ := hcs j c hx
          obtain ⟨-, -, -, -, -, oc, cc, rfl, hsc, hfc, hrc⟩ := hrd
          have y0 := hkey 0 _ rfl
          have y1 := hkey 1 _ rfl
          rw [Nat.add_zero] at y0
          have HX := hide hx
          have HSC := hide hsc
          have hc2 : c.l.length ≤ 9223372036854775807 := hfc.1
          have HA3 : Hid (Below wr.heap.size wr (wr.alloc (.cells #[.string c.s, .slice oc c.l.length cc] 79))) := (Below.refl _ wr).alloc (Nat.le_refl _) _
          have HC3 : Hid ((wr.alloc (.cells #[.string c.s, .slice oc c.l.length cc] 79)).heap[wr.heap.size]? = some (.cells #[.string c.s, .slice oc c.l.length cc] 79 (0, 0))) := heap_alloc_new wr _
          have HB3 := hide (HB2.out.trans (HA3.out.mono HB2.out.size))
          have HP3 := hide ((HA3.out.block w.heap.size (heap_lt HP2.out)).trans HP2.out)
          have HV3 := hide (HBV.out.trans (HA3.out.mono HBV.out.size))
          have HRC := hide (hrc.later HA3.out (tyR_later HA3.out h))
          have HFA : Hid (conB h x.l c = false → dataB h x.l k d = false) := by
            intro hf
            unfold dataB
            rw [all_false (k := j + 1) (by rw [all_next HX.out HALL.out]; exact hf)]
            simp
          clear hcs hx hne hkey hlen hsc hfc hrc
          have hlj2 : (j : Int) < d.l.length := by omega
          cases hg : grB c.s
          · have HG : Hid (greatB c.s.data.toList = false) := hg
            have HG2 := hide hg
            clear hg
            go_wp2_with fail
            refine (specGreat_any _ _ HSC.out).mono ?_
            rintro e w1 ⟨rfl, rfl⟩
            rw [HG.out]
            go_wp2
            go_ret
            exact ⟨ret_bool (HFA.out (by unfold conB ownB; rw [HG2.out]; rfl)).symm, HB3.out⟩
          have HG : Hid (greatB c.s.data.toList = true) := hg
          have HG2 := hide hg
          clear hg
          cases hgv : (givenT c.s || givenC c.s)
          case true =>
            have HGV := hide hgv
            clear hgv
            go_wp2_with fail
            refine (specGreat_any _ _ HSC.out).mono ?_
            rintro e w1 ⟨rfl, rfl⟩
            rw [HG.out]
            go_wp2_with fail
            refine (l3Own_any _ _).mono ?_
            rintro e w1 ⟨rfl, hb⟩
            rw [HGV.out]
            have HB4 := hide (HB3.out.trans (hb.mono HB3.out.size))
            clear hb
            go_wp2
            go_ret
            exact ⟨ret_bool (HFA.out (by unfold conB ownB; rw [HGV.out, Bool.not_true, Bool.and_false]; rfl)).symm, HB4.out⟩
          have HGV := hide hgv
          clear hgv
          by_cases h4 : c.l.length ≤ 4
          case neg =>
            have hgt : 4 < (c.l.length : Int) := by omega
            have HH4 := hide h4
            clear h4
            go_wp2_with fail
            refine (specGreat_any _ _ HSC.out).mono ?_
            rintro e w1 ⟨rfl, rfl⟩
            rw [HG.out]
            go_wp2_with fail
            refine (l3Own_any _ _).mono ?_
            rintro e w1 ⟨rfl, hb⟩
            rw [HGV.out]
            have HB4 := hide (HB3.out.trans (hb.mono HB3.out.size))
            have HC4 := hide ((hb.block wr.heap.size (heap_lt HC3.out)).trans HC3.out)
            clear hb
            have e1 := cell_of HC4.out 1
            simp only [List.getElem?_toArray, List.getElem?_cons_succ, List.getElem?_cons_zero] at e1
            go_wp2
            go_ret
            exact ⟨ret_bool (HFA.out (by unfold conB; rw [decide_eq_false HH4.out, Bool.false_and, Bool.and_false])).symm, HB4.out⟩
          have hgt : ¬ 4 < (c.l.length : Int) := by omega
          have HH4 := hide h4
          clear h4
          have hcb : cntS (consL x.l) c.s ≤ 1048576 := Nat.le_trans (cntS_le _ _) HN.out
          generalize hcn : cntS (consL x.l) c.s = cn at hcb
          have HCN := hide hcn
          clear hcn
          by_cases h1 : cn = 1
          case neg =>
            have hne1 : ((cn : Int) != 1) = true := by simp; omega
            have hne2 : (cn != 1) = true := by simpa using h1
            have HH1 := hide h1
            clear h1
            go_wp2_with fail
            refine (specGreat_any _ _ HSC.out).mono ?_
            rintro e w1 ⟨rfl, rfl⟩
            rw [HG.out]
            go_wp2_with fail
            refine (l3Own_any _ _).mono ?_
            rintro e w1 ⟨rfl, hb⟩
            rw [HGV.out]
            have HB4 := hide (HB3.out.trans (hb.mono HB3.out.size))
            have HC4 := hide ((hb.block wr.heap.size (heap_lt HC3.out)).trans HC3.out)
            have HP4 := hide ((hb.block w.heap.size (heap_lt HP3.out)).trans HP3.out)
            clear hb
            have e0 := cell_of HC4.out 0
            have e1 := cell_of HC4.out 1
            have p0 := cell_of HP4.out 0
            have p1 := cell_of HP4.out 1
            simp only [List.getElem?_toArray, List.getElem?_cons_succ, List.getElem?_cons_zero] at e0 e1 p0 p1
            go_wp2_with fail
            refine (times_any c.s (prR_later HB4.out h _ _ HR.out) HN.out).mono ?_
            rintro e w2 ⟨rfl, hb⟩
            rw [HCN.out]
            have HB5 := hide (HB4.out.trans (hb.mono HB4.out.size))
            clear hb
            go_wp2
            go_ret
            exact ⟨ret_bool (HFA.out (by unfold conB; rw [HCN.out, decide_eq_false HH1.out, Bool.false_and, Bool.and_false, Bool.and_false])).symm, HB5.out⟩
          have hne1 : ((cn : Int) != 1) = false := by simp; omega
          have hne2 : (cn != 1) = false := by simpa using h1
          have HH1 := hide h1
          have HCB : Hid (conB h x.l c = c.l.all (argB h)) := by
            show conB h x.l c = c.l.all (argB h)
            unfold conB ownB
            rw [HG2.out, HGV.out, decide_eq_true HH4.out, HCN.out, decide_eq_true HH1.out]
            rfl
          clear h1
          go_wp2_with fail
          refine (specGreat_any _ _ HSC.out).mono ?_
          rintro e w1 ⟨rfl, rfl⟩
          rw [HG.out]
          go_wp2_with fail
          refine (l3Own_any _ _).mono ?_
          rintro e w1 ⟨rfl, hb⟩
          rw [HGV.out]
          have HB4 := hide (HB3.out.trans (hb.mono HB3.out.size))
          have HV4 := hide (HV3.out.trans (hb.mono HV3.out.size))
          have HC4 := hide ((hb.block wr.heap.size (heap_lt HC3.out)).trans HC3.out)
          have HP4 := hide ((hb.block w.heap.size (heap_lt HP3.out)).trans HP3.out)
          have HRC4 := hide (HRC.out.later hb (tyR_later hb h))
          clear hb
          have e0 := cell_of HC4.out 0
          have e1 := cell_of HC4.out 1
          have p0 := cell_of HP4.out 0
          have p1 := cell_of HP4.out 1
          simp only [List.getElem?_toArray, List.getElem?_cons_succ, List.getElem?_cons_zero] at e0 e1 p0 p1
          go_wp2_with fail
          refine (times_any c.s (prR_later HB4.out h _ _ HR.out) HN.out).mono ?_
          rintro e w2 ⟨rfl, hb⟩
          rw [HCN.out]
          have HB5 := hide (HB4.out.trans (hb.mono HB4.out.size))
          have HV5 := hide (HV4.out.trans (hb.mono HV4.out.size))
          have HC5 := hide ((hb.block wr.heap.size (heap_lt HC4.out)).trans HC4.out)
          have HRC5 := hide (HRC4.out.later hb (tyR_later hb h))
          clear hb e0 e1 p0 p1 d0 d1 y0 y1
          go_wp2
          generalize hgb : wr.heap.size = gb at HC5 ⊢
          clear hgb
          go_loopw [9] (fun t9 wq => ∃ m : Nat, m ≤ c.l.length ∧ t9 = .int .i64 m ∧ (c.l.take m).all (argB h) = true ∧ Below w2.heap.size w2 wq) (fun t9 _ => c.l.length - (intOf t9).toNat)
          case atStart => exact ⟨0, Nat.zero_le _, rfl, rfl, Below.refl _ _⟩
          case round =>
            obtain ⟨m, hm, rfl, hal3, hb3⟩ := hrel
            have HAL3 := hide hal3
            have HB6 := hide (HB5.out.trans (hb3.mono HB5.out.size))
            have HV6 := hide (HV5.out.trans (hb3.mono HV5.out.size))
            have HC6 := hide ((hb3.block gb (heap_lt HC5.out)).trans HC5.out)
            have HRC6 := hide (HRC5.out.later hb3 (tyR_later hb3 h))
            have HBB := hide hb3
            clear hal3 hb3
            have e1 := cell_of HC6.out 1
            simp only [List.getElem?_toArray, List.getElem?_cons_succ, List.getElem?_cons_zero] at e1
            by_cases hlm : m < c.l.length
            · have hne : c.l ≠ [] := by intro e; rw [e] at hlm; simp at hlm
              obtain ⟨t, hx⟩ : ∃ t, c.l[m]? = some t := ⟨c.l[m], List.getElem?_eq_getElem hlm⟩
              obtain ⟨b3, off3, eo, -, hbl3, hcs⟩ := HRC6.out hne
              subst eo
              obtain ⟨cs, hlen, hkey, hrd⟩ := hcs m t hx
              obtain ⟨ot, ct, rfl⟩ := ty_form hrd
              have y0 := hkey 0 _ rfl
              have y1 := hkey 1 _ rfl
              have y2 := hkey 2 _ rfl
              have y3 := hkey 3 _ rfl
              rw [Nat.add_zero] at y0
              have HT := hide hx
              have HRT := hide hrd
              clear hcs hx hne hkey hlen hrd
              have hlm2 : (m : Int) < c.l.length := by omega
              generalize hwz : wrZ h t 1 = z
              have HWZ := hide hwz
              clear hwz
              by_cases hz : 10 < z
              all_goals
                go_wp2_with fail
                refine (written_all h K t _ _ 1 (by omega) (by omega) HRT.out).mono ?_
                rintro e w3 ⟨rfl, hb⟩
                rw [HWZ.out]
                have HB7 := hide (HB6.out.trans (hb.mono HB6.out.size))
                have HBB7 := hide (HBB.out.trans (hb.mono HBB.out.size))
                clear hb
                go_wp2
              · go_ret
                refine ⟨ret_bool (HFA.out ?_).symm, HB7.out⟩
                rw [HCB.out]
                refine all_false (k := m + 1) ?_
                rw [all_next HT.out HAL3.out]
                unfold argB
                rw [HWZ.out]
                exact decide_eq_false (by omega)
              · go_roundw
                case rel =>
                  refine ⟨m + 1, by omega, by go_num, ?_, HBB7.out⟩
                  rw [all_next HT.out HAL3.out]
                  unfold argB
                  rw [HWZ.out]
                  exact decide_eq_true (by omega)
                case measure => simp [intOf]; omega
            · go_wp2
              go_roundw
              case rel =>
                refine ⟨j + 1, by omega, by go_num, ?_, HV6.out⟩
                rw [all_next HX.out HALL.out, HCB.out]
                have h9 := HAL3.out
                rw [List.take_of_length_le (by omega)] at h9
                exact h9
              case measure => simp [intOf]; omega
        · have hall : d.l.all (conB h x.l) = true := by
            have h9 := HALL.out
            rw [List.take_of_length_le (by omega)] at h9
            exact h9
          have HDB : Hid (dataB h x.l k d = (ownB d.s && inB d.l.length 1 5)) := by
            show dataB h x.l k d = _
            unfold dataB
            rw [HAL.out, hall]
            rfl
          clear hall
          cases hg : grB d.s
          · have HG : Hid (greatB d.s.data.toList = false) := hg
            have HG2 := hide hg
            clear hg
            go_wp2_with fail
            refine (specGreat_any _ _ HDS.out).mono ?_
            rintro e w1 ⟨rfl, rfl⟩
            rw [HG.out]
            go_wp2
            go_ret
            exact ⟨ret_bool (by rw [HDB.out, ownB, HG2.out]; rfl), HB2.out⟩
          have HG : Hid (greatB d.s.data.toList = true) := hg
          have HG2 := hide hg
          clear hg
          cases hgv : (givenT d.s || givenC d.s)
          all_goals
            have HGV := hide hgv
            clear hgv
            go_wp2_with fail
            refine (specGreat_any _ _ HDS.out).mono ?_
            rintro e w1 ⟨rfl, rfl⟩
            rw [HG.out]
            go_wp2_with fail
            refine (l3Own_any _ _).mono ?_
            rintro e w1 ⟨rfl, hb⟩
            rw [HGV.out]
            have HB4 := hide (HB2.out.trans (hb.mono HB2.out.size))
            have HD4 := hide ((hb.block (w.heap.size + 1) (heap_lt HD2.out)).trans HD2.out)
            clear hb
            have f1 := cell_of HD4.out 1
            simp only [List.getElem?_toArray, List.getElem?_cons_succ, List.getElem?_cons_zero] at f1
          · go_wp2_with fail
            refine (in_any _ _ _ _).mono ?_
            rintro e w2 ⟨rfl, rfl⟩
            go_wp2
            go_ret
            exact ⟨ret_bool (by rw [HDB.out, ownB, HG2.out, HGV.out]; simp), HB4.out⟩
          · go_wp2
            go_ret
            exact ⟨ret_bool (by rw [HDB.out, ownB, HG2.out, HGV.out]; rfl), HB4.out⟩
end Go.Proofs.YteoghpefilghdakGreatDoor

/- The model's count of definitions; its ExpOk and DecsOk. -/
import Derived.Test.YteoghpefilghdakGreatDoorYD
import Derived.Deep.QuietTactic
import Derived.BigQuiet
namespace Go.Proofs.YteoghpefilghdakGreatDoor
open Go.ChangeShapes Go.WideShapes Go.ChangeAt Go.RowKit

theorem name_at {xs : List Tr} {i : Nat} {y : Tr} (h : xs[i]? = some y) : atZ (xs.map Tr.s) i = y.s := atZ_of (by rw [List.getElem?_map, h]; rfl)
theorem okz_deep {h : Nat} {e : Tr} {d : Int} (hok : (okz h).ex e d = true) : d ≤ 12 := by
  cases h with
  | zero => cases hok
  | succ h =>
    have h1 : (decide (d ≤ 12) && _) = true := hok
    rw [Bool.and_eq_true] at h1
    exact of_decide_eq_true h1.1
theorem alike_step {l : List ByteArray} {k : Nat} {z s : ByteArray} (hz : l[k]? = some z) (h0 : alikeB (l.take k) s = false) (h1 : (z.toList == s.toList) = false) : alikeB (l.take (k + 1)) s = false := by
  unfold alikeB at *
  rw [List.take_add_one, hz, List.any_append, h0]
  simpa using h1
theorem alike_yes {l : List ByteArray} {k i : Nat} {z s : ByteArray} (hz : l[k]? = some z) (hk : k < i) (h1 : (z.toList == s.toList) = true) : alikeB (l.take i) s = true := by
  unfold alikeB
  rw [List.any_eq_true]
  refine ⟨z, ?_, h1⟩
  apply List.mem_of_getElem? (i := k)
  rw [List.getElem?_take, if_pos hk]
  exact hz
/-- The first i definitions are right, and no two of them of one name. -/
def decsTo (f : Tr → Int → Bool) (xs : List Tr) (d : Int) (i : Nat) : Bool := noDupTo (xs.map Tr.s) i && allZ f (xs.take i) d
theorem decsTo_next {f : Tr → Int → Bool} {xs : List Tr} {d : Int} {i : Nat} {y : Tr} (hy : xs[i]? = some y) : decsTo f xs d (i + 1) = (decsTo f xs d i && (!alikeB ((xs.map Tr.s).take i) y.s && f y d)) := by
  unfold decsTo
  rw [allZ_take f xs d i y hy]
  show ((noDupTo (xs.map Tr.s) i && !alikeB ((xs.map Tr.s).take i) (atZ (xs.map Tr.s) i)) && _) = _
  rw [name_at hy]
  cases noDupTo (xs.map Tr.s) i <;> cases alikeB ((xs.map Tr.s).take i) y.s <;> simp
theorem decsTo_false {f : Tr → Int → Bool} {xs : List Tr} {d : Int} {i n : Nat} (h : decsTo f xs d i = false) (hi : i ≤ n) (hn : n ≤ xs.length) : decsTo f xs d n = false := by
  induction n with
  | zero => rw [show i = 0 by omega] at h; exact h
  | succ n ih =>
    by_cases e : i = n + 1
    · rw [← e]; exact h
    · rw [decsTo_next (List.getElem?_eq_getElem (by omega)), ih (by omega) (by omega)]
      rfl
theorem decsB_to (f : Tr → Int → Bool) (xs : List Tr) (m d : Int) : decsB f xs m d = (inB xs.length 1 m && decsTo f xs d xs.length) := by
  unfold decsB decsTo noDupB
  rw [List.take_length, List.length_map]
  cases allZ f xs d <;> simp

set_option maxHeartbeats 400000 in
theorem l3Decs_no (n : Nat) (o : Option Addr) (c : Nat) (m d : Int) (w : World) (hl : n ≤ maxLen) (hin : inB n 1 m = false) : Calls Tryz.prog 26 #[.slice o n c, .int .i64 m, .int .i64 d] w fun e w' => e = .returned (.int .i64 1000) ∧ w' = w := by
  have HIN := hide hin
  have hl2 : n ≤ 9223372036854775807 := hl
  clear hin hl
  go_enter Tryz.func26, Tryz.ntmps26
  go_wp2_with fail
  refine (in_any n 1 m _).mono ?_
  rintro e w1 ⟨rfl, rfl⟩
  rw [HIN.out]
  go_wp2
  go_ret
  exact ⟨rfl, rfl⟩

set_option maxHeartbeats 2000000 in
set_option maxRecDepth 100000 in
theorem l3Decs_step {h : Nat} (i1 : CoEx h) (i2 : CoDs h) : CoDs (h + 1) := by
  intro K xs o c w m d hm hl hm0 hm1 h0 h1
  have I1 := hide i1
  have I2 := hide i2
  have HM := hide hm
  have hl2 : xs.length ≤ 9223372036854775807 := hl
  have HL := hide hl
  clear i1 i2 hm hl
  cases hin : inB xs.length 1 m
  · refine (l3Decs_no xs.length o c m d w HL.out hin).mono ?_
    rintro e w1 ⟨rfl, rfl⟩
    refine ⟨1000, rfl, ?_, by omega, by omega, Below.refl _ _⟩
    unfold decsB
    rw [hin]
    exact Trk.bad (by omega)
  have HIN := hide hin
  clear hin
  go_enter Tryz.func26, Tryz.ntmps26
  go_wp2_with fail
  refine (in_any xs.length 1 m _).mono ?_
  rintro e w1 ⟨rfl, hw1⟩
  rw [HIN.out, hw1]
  clear hw1 w1
  go_wp2
  go_loopw [7, 8] (fun t7 t8 wr => ∃ (i : Nat) (n : Int), i ≤ xs.length ∧ t8 = .int .i64 i ∧ t7 = .int .i64 n ∧ Trk n (decsTo (okz (h + 1)).de xs d i) (sumZ (cnt (h + 1)).de (xs.take i)) ∧ 0 ≤ n ∧ n ≤ 1000 + 201 * (14 - d) ∧ Below w.heap.size w wr) (fun _ t8 _ => xs.length - (intOf t8).toNat)
  case atStart => exact ⟨0, 0, Nat.zero_le _, rfl, rfl, Or.inl ⟨rfl, by simp [sumZ], by simp [sumZ]⟩, by omega, by omega, Below.refl _ _⟩
  case round =>
    obtain ⟨i, n, hi, rfl, rfl, htk, hn0, hn1, hbw⟩ := hrel
    have HTK := hide htk
    have HBW := hide hbw
    clear htk hbw
    by_cases hgo : i < xs.length ∧ n ≤ 200
    · obtain ⟨hlt, hn⟩ := hgo
      have hne : xs ≠ [] := by intro e; rw [e] at hlt; simp at hlt
      obtain ⟨y, hy⟩ : ∃ y, xs[i]? = some y := ⟨xs[i], List.getElem?_eq_getElem hlt⟩
      have hrow := HM.out.later HBW.out (reads_later HBW.out (h + 1)).2.1
      obtain ⟨b, off, eo, -, hbl, hcs⟩ := hrow hne
      subst eo
      have HCS := hide hcs
      obtain ⟨cs, hlen, hkey, hrd⟩ := hcs i y hy
      obtain ⟨-, -, -, e, p1, g1, ce, p2, g2, hye, rfl, hs, hf1, hf2, rs, hce, re, rd⟩ := hrd
      obtain ⟨a0, a1, a2, a3, a4, a5, rfl⟩ := six hce
      have q0 := hkey 0 (.string y.s) rfl
      have q1 := hkey 1 (.slice p1 y.ss.length g1) rfl
      have q2 := hkey 2 a0 rfl
      have q3 := hkey 3 a1 rfl
      have q4 := hkey 4 a2 rfl
      have q5 := hkey 5 a3 rfl
      have q6 := hkey 6 a4 rfl
      have q7 := hkey 7 a5 rfl
      have q8 := hkey 8 (.slice p2 y.ds.length g2) rfl
      rw [Nat.add_zero] at q0
      have HY := hide hy
      have HYE := hide hye
      have HSS := hide hs
      have HF1 := hide hf1
      have HF2 := hide hf2
      have RS := hide rs
      have RE := hide re
      have RD := hide rd
      have hd2 : y.ds.length ≤ 9223372036854775807 := hf2.1
      have hss2 : y.ss.length ≤ 9223372036854775807 := hf1.1
      clear hcs hy hne hkey hlen hye hs hf1 hf2 rs re rd hce hrow
      have hlt2 : (i : Int) < xs.length := by omega
      go_wp2
      go_loopw [9] (fun t9 wq => ∃ k : Nat, k ≤ i ∧ t9 = .int .i64 k ∧ alikeB ((xs.map Tr.s).take k) y.s = false ∧ Below wr.heap.size wr wq) (fun t9 _ => i - (intOf t9).toNat)
      case atStart => exact ⟨0, Nat.zero_le _, rfl, rfl, Below.refl _ _⟩
      case round =>
        obtain ⟨k, hk, rfl, hno, hbq⟩ := hrel
        have HNO := hide hno
        have HBQ := hide hbq
        have HB2 := hide (HBW.out.trans (hbq.mono HBW.out.size))
        have p0 : wr.cell? ⟨b, off + i * 9, none⟩ = some (.string y.s) := (hbq.cell (p := ⟨b, off + i * 9, none⟩) hbl).trans q0
        have p1w : wr.cell? ⟨b, off + i * 9 + 1, none⟩ = some (.slice p1 y.ss.length g1) := (hbq.cell (p := ⟨b, off + i * 9 + 1, none⟩) hbl).trans q1
        clear hno
        by_cases hkl : k < i
        · obtain ⟨z, hz⟩ : ∃ z, xs[k]? = some z := ⟨xs[k]'(by omega), List.getElem?_eq_getElem _⟩
          obtain ⟨csz, -, hkz, hrz⟩ := HCS.out k z hz
          obtain ⟨_, _, _, _, _, _, _, _, _, _, _, rfl⟩ := de_form hrz
          have z0 := hkz 0 (.string z.s) rfl
          rw [Nat.add_zero] at z0
          have z0w : wr.cell? ⟨b, off + k * 9, none⟩ = some (.string z.s) := (hbq.cell (p := ⟨b, off + k * 9, none⟩) hbl).trans z0
          have HZ : Hid ((xs.map Tr.s)[k]? = some z.s) := by show (xs.map Tr.s)[k]? = some z.s; rw [List.getElem?_map, hz]; rfl
          clear hrz hkz hz hbq z0 q0 q1 q2 q3 q4 q5 q6 q7 q8
          have hkl2 : (k : Int) < i := by omega
          have hkx : (k : Int) < xs.length := by omega
          cases hzz : (z.s.toList == y.s.toList)
          · go_wp2_with fail
            go_quiet (fail)
            go_wp2
            have hzz2 := hzz
            exact ⟨⟨k + 1, by omega, by go_num, alike_step HZ.out HNO.out hzz2, below_drewN HBQ.out _⟩, by simp [intOf]; omega⟩
          · go_wp2_with fail
            go_quiet (fail)
            go_wp2
            go_ret
            refine ⟨1000, rfl, ?_, by omega, by omega, below_drewN HB2.out _⟩
            have hf : decsTo (okz (h + 1)).de xs d (i + 1) = false := by
              rw [decsTo_next HY.out, alike_yes HZ.out hkl hzz]
              simp
            rw [decsB_to, decsTo_false hf hlt (Nat.le_refl _), Bool.and_false]
            exact Trk.bad (by omega)
        · have hki : k = i := by omega
          have HNI : Hid (alikeB ((xs.map Tr.s).take i) y.s = false) := by
            have h2 := HNO.out
            rw [hki] at h2
            exact h2
          have p2w : wr.cell? ⟨b, off + i * 9 + 2, none⟩ = some a0 := (hbq.cell (p := ⟨b, off + i * 9 + 2, none⟩) hbl).trans q2
          have hkl2 : ¬ (k : Int) < i := by omega
          clear hki p2w
          cases hnm : nmB y.s
          · have HNM : Hid (nameB y.s.data.toList = false) := hnm
            have HNM2 := hide hnm
            clear hnm
            clear q0 q1 q2 q3 q4 q5 q6 q7 q8 hbq
            go_wp2_with fail
            refine (specName_any _ _ HSS.out).mono ?_
            rintro e w2 ⟨rfl, hb⟩
            rw [HNM.out]
            have HB3 := hide (HB2.out.trans (hb.mono HB2.out.size))
            clear hb
            go_wp2
            go_ret
            refine ⟨1000, rfl, ?_, by omega, by omega, HB3.out⟩
            have hf : decsTo (okz (h + 1)).de xs d (i + 1) = false := by
              rw [decsTo_next HY.out]
              have : (okz (h + 1)).de y d = false := by
                show ((nmB y.s && _) && _) = false
                rw [HNM2.out]
                rfl
              rw [this]
              simp
            rw [decsB_to, decsTo_false hf hlt (Nat.le_refl _), Bool.and_false]
            exact Trk.bad (by omega)
          have HNM : Hid (nameB y.s.data.toList = true) := hnm
          have HNM2 := hide hnm
          clear hnm
          cases hva : varsB y.ss
          all_goals
            have HVA := hide hva
            clear hva
            go_wp2_with fail
            refine (specName_any _ _ HSS.out).mono ?_
            rintro e w2 ⟨rfl, hb⟩
            rw [HNM.out]
            have hb3 := hbq.trans (hb.mono hbq.size)
            have r1 : w2.cell? ⟨b, off + i * 9 + 1, none⟩ = some (.slice p1 y.ss.length g1) := (hb3.cell (p := ⟨b, off + i * 9 + 1, none⟩) hbl).trans q1
            have HB3 := hide hb3
            clear hb hb3
            go_wp2_with fail
            refine (l3Vars_any y.ss p1 g1 _ HF1.out.1 HF1.out.2 (RS.out.later HB3.out fun _ _ h => h)).mono ?_
            rintro e w3 ⟨rfl, hb⟩
            rw [HVA.out]
            have hb4 := HB3.out.trans (hb.mono HB3.out.size)
            have HB4 := hide hb4
            have HB4W := hide (HBW.out.trans (hb4.mono HBW.out.size))
            clear hb
          · go_wp2
            go_ret
            refine ⟨1000, rfl, ?_, by omega, by omega, HB4W.out⟩
            have hf : decsTo (okz (h + 1)).de xs d (i + 1) = false := by
              rw [decsTo_next HY.out]
              have : (okz (h + 1)).de y d = false := by
                show ((nmB y.s && varsB y.ss) && _) = false
                rw [HVA.out]
                simp
              rw [this]
              simp
            rw [decsB_to, decsTo_false hf hlt (Nat.le_refl _), Bool.and_false]
            exact Trk.bad (by omega)
          · have s2 : w3.cell? ⟨b, off + i * 9 + 2, none⟩ = some a0 := (hb4.cell (p := ⟨b, off + i * 9 + 2, none⟩) hbl).trans q2
            have s3 : w3.cell? ⟨b, off + i * 9 + 3, none⟩ = some a1 := (hb4.cell (p := ⟨b, off + i * 9 + 3, none⟩) hbl).trans q3
            have s4 : w3.cell? ⟨b, off + i * 9 + 4, none⟩ = some a2 := (hb4.cell (p := ⟨b, off + i * 9 + 4, none⟩) hbl).trans q4
            have s5 : w3.cell? ⟨b, off + i * 9 + 5, none⟩ = some a3 := (hb4.cell (p := ⟨b, off + i * 9 + 5, none⟩) hbl).trans q5
            have s6 : w3.cell? ⟨b, off + i * 9 + 6, none⟩ = some a4 := (hb4.cell (p := ⟨b, off + i * 9 + 6, none⟩) hbl).trans q6
            have s7 : w3.cell? ⟨b, off + i * 9 + 7, none⟩ = some a5 := (hb4.cell (p := ⟨b, off + i * 9 + 7, none⟩) hbl).trans q7
            clear hb4
            go_wp2_with fail
            refine (I1.out K e _ _ (d + 1) ((reads_later HB4.out h).1 _ _ RE.out) (by omega) (by omega)).mono ?_
            rintro _ w4 ⟨r, rfl, hr, hr0, hr1, hb⟩
            have hb5 := HB4.out.trans (hb.mono HB4.out.size)
            have t8 : w4.cell? ⟨b, off + i * 9 + 8, none⟩ = some (.slice p2 y.ds.length g2) := (hb5.cell (p := ⟨b, off + i * 9 + 8, none⟩) hbl).trans q8
            have HRT := hide hr
            have HB5 := hide hb5
            have HB5W := hide (HBW.out.trans (hb5.mono HBW.out.size))
            have HOKY : Hid ((okz (h + 1)).de y d = ((okz h).ex e (d + 1) && (decide (y.ds.length = 0) || decsB (okz h).de y.ds 6 (d + 1)))) := by
              show ((nmB y.s && varsB y.ss) && (allZ (okz h).ex y.l (d + 1) && _)) = _
              rw [HNM2.out, HVA.out, HYE.out]
              simp [allZ]
            have HCNY : Hid ((cnt (h + 1)).de y = (cnt h).ex e + sumZ (cnt h).de y.ds) := by
              show sumZ (cnt h).ex y.l + _ = _
              rw [HYE.out]
              simp [sumZ]
            clear hr hb hb5 q0 q1 q2 q3 q4 q5 q6 q7 q8 s2 s3 s4 s5 s6 s7 r1 hbq p0 p1w
            by_cases hds : y.ds.length = 0
            · have hds2 : decide (0 < y.ds.length) = false := decide_eq_false (by omega)
              have HDS := hide hds
              clear hds
              go_wp2
              refine ⟨⟨i + 1, n + r, by omega, by go_num, by first | rfl | go_num, ?_, by omega, by omega, HB5W.out⟩, by simp [intOf]; omega⟩
              have key := HTK.out.add hn HRT.out
              rw [decsTo_next HY.out, sumZ_take _ _ _ _ HY.out, HNI.out, HOKY.out, HCNY.out, HDS.out]
              refine key.pass (by simp) ?_
              rw [List.length_eq_zero_iff.1 HDS.out]
              simp [sumZ]
            · have hds2 : decide (0 < y.ds.length) = true := decide_eq_true (by omega)
              have HDS := hide hds
              clear hds
              by_cases hn2 : n + r ≤ 200
              · have key := HTK.out.add hn HRT.out
                have hok := (key.of_le hn2).1
                rw [Bool.and_eq_true] at hok
                have hdeep := okz_deep hok.2
                have KEY := hide key
                clear key hok
                go_wp2_with fail
                refine (I2.out K y.ds p2 g2 _ 6 (d + 1) (RD.out.later HB5.out (reads_later HB5.out h).2.1) HF2.out.1 (by omega) (by omega) (by omega) (by omega)).mono ?_
                rintro _ w5 ⟨r2, rfl, hr2, hr20, hr21, hb⟩
                have HRT2 := hide hr2
                have HB6W := hide (HB5W.out.trans (hb.mono HB5W.out.size))
                clear hr2 hb
                go_wp2
                refine ⟨⟨i + 1, n + r + r2, by omega, by go_num, by first | rfl | go_num, ?_, by omega, by omega, HB6W.out⟩, by simp [intOf]; omega⟩
                have key := KEY.out.add hn2 HRT2.out
                rw [decsTo_next HY.out, sumZ_take _ _ _ _ HY.out, HNI.out, HOKY.out, HCNY.out, decide_eq_false HDS.out]
                refine key.pass ?_ (by omega)
                cases decsTo (okz (h + 1)).de xs d i <;> simp
              · go_wp2
                refine ⟨⟨i + 1, n + r, by omega, by go_num, by first | rfl | go_num, ?_, by omega, by omega, HB5W.out⟩, by simp [intOf]; omega⟩
                have key := (HTK.out.add hn HRT.out).stop (b := decsB (okz h).de y.ds 6 (d + 1)) (d := sumZ (cnt h).de y.ds) (by omega)
                rw [decsTo_next HY.out, sumZ_take _ _ _ _ HY.out, HNI.out, HOKY.out, HCNY.out, decide_eq_false HDS.out]
                refine key.pass ?_ (by omega)
                cases decsTo (okz (h + 1)).de xs d i <;> simp
    · have HT : Hid (Trk n (decsB (okz (h + 1)).de xs m d) (sumZ (cnt (h + 1)).de xs)) := by
        show Trk n (decsB (okz (h + 1)).de xs m d) (sumZ (cnt (h + 1)).de xs)
        rw [decsB_to, HIN.out, Bool.true_and]
        by_cases hl : i < xs.length
        · have h200 : 200 < n := by omega
          refine Or.inr ⟨h200, fun hc => ?_⟩
          have ht := HTK.out
          rcases ht with ⟨e1, e2, e3⟩ | ⟨e1, e2⟩
          · omega
          · apply e2
            refine ⟨?_, ?_⟩
            · cases hd : decsTo (okz (h + 1)).de xs d i with
              | true => rfl
              | false => rw [decsTo_false hd (by omega) (Nat.le_refl _)] at hc; cases hc.1
            · have := sumZ_split (cnt (h + 1)).de xs i
              omega
        · have hii : i = xs.length := by omega
          have ht := HTK.out
          rw [hii, List.take_length] at ht
          exact ht
      rcases (show ¬ ((i : Int) < xs.length) ∨ ((i : Int) < xs.length ∧ ¬ n ≤ 200) by omega) with he | ⟨he, he2⟩
      all_goals
        clear hgo
        go_wp2
        go_ret
        exact ⟨n, rfl, HT.out, hn0, hn1, HBW.out⟩

theorem co_all (h : Nat) : CoEx h ∧ CoDs h ∧ CoAl h := by
  induction h with
  | zero =>
    refine ⟨fun _ _ _ _ _ hr => hr.elim, ?_, fun _ _ _ _ _ _ _ _ _ _ _ _ hr => hr.elim⟩
    intro K xs o c w m d hm hl hm0 hm1 h0 h1
    have hnil : xs = [] := by
      cases xs with
      | nil => rfl
      | cons x r =>
        obtain ⟨_, _, _, _, _, hc⟩ := hm (by simp)
        obtain ⟨_, _, _, hf⟩ := hc 0 x rfl
        exact hf.elim
    subst hnil
    have hin : inB (([] : List Tr).length : Int) 1 m = false := inB_lo (by decide)
    refine (l3Decs_no 0 o c m d w (Nat.zero_le _) hin).mono ?_
    rintro e w1 ⟨rfl, rfl⟩
    refine ⟨1000, rfl, ?_, by omega, by omega, Below.refl _ _⟩
    unfold decsB
    rw [hin]
    exact Trk.bad (by omega)
  | succ h ih => exact ⟨l3Count_step ih.1 ih.2.1 ih.2.2, l3Decs_step ih.1 ih.2.1, coAl_step ih.1⟩

end Go.Proofs.YteoghpefilghdakGreatDoor

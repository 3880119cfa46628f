/- The model's l7Exp. -/
import Derived.Test.YtlaeenfeajkcfalGreatTD
namespace Go.Proofs.YtlaeenfeajkcfalGreat.Fr
open Go.ChangeShapes Go.WideShapes Go.ChangeAt Go.RowKit Go.Proofs.YtlaeenfeajkcfalGreat.Nm Go.Proofs.YtlaeenfeajkcfalGreat.Kn
set_option linter.unusedVariables false

set_option maxHeartbeats 4000000 in
set_option maxRecDepth 100000 in
theorem l7Ex_of {h : Nat} (ih1 : L7Ex h) (ih2 : L7Ds h) (ih3 : ∀ h', h = h' + 1 → L7Ex h') : L7Ex (h + 1) := by
  intro K K' g p cp x cs w hp hr
  obtain ⟨u1, d1, u2, d2, rfl⟩ := pr_form hp
  obtain ⟨-, o1, c1, o2, c2, o3, c3, rfl, hsz, hf1, hf2, hf3, r1, r2, r3⟩ := hr
  obtain ⟨X, hX⟩ : ∃ X, (w.alloc (.cells #[.slice u1 p.l.length d1, .slice u2 p.ds.length d2] 31)).alloc (.cells #[.int .i64 x.k, .string x.s, .int .i64 x.n, .slice o1 x.l.length c1, .slice o2 x.ds.length c2, .slice o3 x.al.length c3] 75) = X := ⟨_, rfl⟩
  have hbX : Below w.heap.size w X := by rw [← hX]; exact ((Below.refl _ w).alloc (Nat.le_refl _) _).alloc (by simp) _
  have hbox1 : X.heap[w.heap.size]? = some (.cells #[.slice u1 p.l.length d1, .slice u2 p.ds.length d2] 31 (0, 0)) := by rw [← hX]; exact (heap_alloc_old _ _ (by simp)).trans (heap_alloc_new w _)
  have hbox : X.heap[w.heap.size + 1]? = some (.cells #[.int .i64 x.k, .string x.s, .int .i64 x.n, .slice o1 x.l.length c1, .slice o2 x.ds.length c2, .slice o3 x.al.length c3] 75 (0, 0)) := by
    have h9 := heap_alloc_new (w.alloc (.cells #[.slice u1 p.l.length d1, .slice u2 p.ds.length d2] 31)) (.cells #[.int .i64 x.k, .string x.s, .int .i64 x.n, .slice o1 x.l.length c1, .slice o2 x.ds.length c2, .slice o3 x.al.length c3] 75)
    rw [hX] at h9
    simpa using h9
  have HBOX1 : Hid (∀ W, Below X.heap.size X W → W.heap[w.heap.size]? = some (.cells #[.slice u1 p.l.length d1, .slice u2 p.ds.length d2] 31 (0, 0))) := fun W hW => (hW.block _ (heap_lt hbox1)).trans hbox1
  have HBOX : Hid (∀ W, Below X.heap.size X W → W.heap[w.heap.size + 1]? = some (.cells #[.int .i64 x.k, .string x.s, .int .i64 x.n, .slice o1 x.l.length c1, .slice o2 x.ds.length c2, .slice o3 x.al.length c3] 75 (0, 0))) := fun W hW => (hW.block _ (heap_lt hbox)).trans hbox
  have HP : Hid (∀ W, Below w.heap.size w W → prR K' W g p [.slice u1 p.l.length d1, .slice u2 p.ds.length d2]) := fun W hW => prR_later hW g _ _ hp
  have HBX := hide hbX
  have HSZ := hide hsz
  have IH1 := hide ih1
  have IH2 := hide ih2
  have IH3 := hide ih3
  have HR1 : Hid (∀ W, Below w.heap.size w W → RowOf K W (reads K W h).ex 6 o1 x.l) := fun W hW => r1.later hW fun _ _ hh => (reads_later hW h).1 _ _ hh
  have HR2 : Hid (∀ W, Below w.heap.size w W → RowOf K W (reads K W h).de 9 o2 x.ds) := fun W hW => r2.later hW fun _ _ hh => (reads_later hW h).2.1 _ _ hh
  have HR3 : Hid (∀ W, Below w.heap.size w W → RowOf K W (reads K W h).al 8 o3 x.al) := fun W hW => r3.later hW fun _ _ hh => (reads_later hW h).2.2 _ _ hh
  have z0 := cell_of hbox 0
  have z1 := cell_of hbox 1
  have y0 := cell_of hbox1 0
  have y1 := cell_of hbox1 1
  simp only [List.getElem?_toArray, List.getElem?_cons_succ, List.getElem?_cons_zero] at z0 z1 y0 y1
  have hl1 : x.l.length ≤ 9223372036854775807 := hf1.1
  have hl2 : x.ds.length ≤ 9223372036854775807 := hf2.1
  have hl3 : x.al.length ≤ 9223372036854775807 := hf3.1
  have HAR : Hid (∀ W, Below w.heap.size w W → ∀ s, Calls Tryz.prog 58 #[.agg #[.slice u1 p.l.length d1, .slice u2 p.ds.length d2], .string s] W fun e w' => e = .returned (.int .i64 (arityZ p.l s)) ∧ Below W.heap.size W w') := fun W hW s => specArityOf_any (prR_later hW g _ _ hp) s
  clear r1 r2 r3 hbX hbox hbox1 ih1 ih2 ih3 hsz hf1 hf2 hf3 hp
  obtain ⟨A, hA⟩ : ∃ A, arityZ p.l = A := ⟨_, rfl⟩
  rw [hA] at HAR ⊢
  have HA := hide hA
  clear hA
  obtain ⟨ok, hok⟩ : ∃ ok, (!((x.k == 2) && decide (A x.s < 0))) = ok := ⟨_, rfl⟩
  have HKX : Hid ((kmz A (h + 1)).ex x = (ok && (x.l.all (kmz A h).ex && (x.al.all (kmz A h).al && x.ds.all (kmz A h).de)))) := by rw [← hok]; rfl
  have HOK := hide hok
  clear hok
  go_enter Tryz.func28, Tryz.ntmps28
  go_upto_region 1 with fail
  clear hX
  go_cut [17] (fun v W => ∃ no, v = .bool no ∧ no = (!ok) ∧ Below X.heap.size X W)
  case first =>
    have HBr := hide (Below.refl X.heap.size X)
    cases hk2 : (x.k == 2) with
    | false =>
      have HK2 := hide hk2
      have HO : Hid (ok = true) := by rw [← HOK.out, HK2.out]; rfl
      go_wp2
      go_meet
      case rel => exact ⟨_, rfl, by rw [HO.out]; rfl, HBr.out⟩
    | true =>
      have HK2 := hide hk2
      have HO : Hid (ok = !decide (A x.s < 0)) := by rw [← HOK.out, HK2.out]; rfl
      go_wp2_with fail
      refine Calls.mono (HAR.out X HBX.out x.s) ?_
      rintro ee w1 ⟨rfl, hb1⟩
      have HB1 := hide hb1
      clear hb1
      go_wp2
      go_meet
      case rel => exact ⟨_, rfl, by rw [HO.out, Bool.not_not], HB1.out⟩
  case rest =>
    obtain ⟨no, rfl, hno, hb0⟩ := hcut
    generalize wc = V at hb0 ⊢
    have HV := hide hb0
    have HWV := hide (HBX.out.trans (hb0.mono HBX.out.size))
    clear hb0 z0 z1 y0 y1
    cases no with
    | true =>
      have HO : Hid (ok = false) := by cases ok; rfl; cases hno
      clear hno
      go_wp2
      go_ret
      exact ⟨by rw [HKX.out, HO.out]; rfl, HWV.out⟩
    | false =>
      have HO : Hid (ok = true) := by cases ok; cases hno; rfl
      clear hno
      have HBr := hide (Below.refl V.heap.size V)
      go_wp2
      go_loopw [5] (fun t5 wr => ∃ i : Nat, i ≤ x.l.length ∧ t5 = .int .i64 i ∧ (∀ z ∈ x.l.take i, (kmz A h).ex z = true) ∧ Below V.heap.size V wr) (fun t5 _ => x.l.length - (intOf t5).toNat)
      case atStart => exact ⟨0, Nat.zero_le _, rfl, fun z hz => by simp at hz, HBr.out⟩
      case round =>
        obtain ⟨i, hi, rfl, hall, hb⟩ := hrel
        have HALL := hide hall
        have HB := hide hb
        have hbw : Below w.heap.size w wr := HWV.out.trans (hb.mono HWV.out.size)
        have HBW := hide hbw
        have hbxw := HV.out.trans (hb.mono HV.out.size)
        have HBXW := hide hbxw
        have hbx := HBOX.out wr hbxw
        have hbx1 := HBOX1.out wr hbxw
        have y0 := cell_of hbx1 0
        have y1 := cell_of hbx1 1
        have v3 := cell_of hbx 3
        have v5 := cell_of hbx 5
        simp only [List.getElem?_toArray, List.getElem?_cons_succ, List.getElem?_cons_zero] at v3 v5 y0 y1
        by_cases hlt : i < x.l.length
        · have hne : x.l ≠ [] := by intro e; rw [e] at hlt; simp at hlt
          obtain ⟨b, off, eo, -, hblt, hcs⟩ := (HR1.out wr hbw) hne
          subst eo
          obtain ⟨cs, hcl, hkey, hr⟩ := hcs i _ (List.getElem?_eq_getElem hlt)
          obtain ⟨d, hd⟩ : ∃ d, x.l[i] = d := ⟨_, rfl⟩
          have HGE := hide (List.getElem?_eq_getElem hlt)
          rw [hd] at hr HGE
          obtain ⟨a0, a1, a2, a3, a4, a5, rfl⟩ := six hcl
          have q0 := hkey 0 _ rfl
          rw [Nat.add_zero] at q0
          have s0 := lat_cell y0
          have s1 := lat_cell y1
          have s2 := lat_cell v3
          have s3 := lat_cell q0
          have s4 := lat_cell (hkey 1 _ rfl)
          have s5 := lat_cell (hkey 2 _ rfl)
          have s6 := lat_cell (hkey 3 _ rfl)
          have s7 := lat_cell (hkey 4 _ rfl)
          have s8 := lat_cell (hkey 5 _ rfl)
          have HBd : Hid (Below wr.heap.size wr (wr.drewN 1)) := (Below.refl _ _).drew
          have hlt2 : (i : Int) < x.l.length := by omega
          have hne0 : Nonempty (Later wr) := later_nonempty wr
          have hbd2 : Below w.heap.size w (wr.drewN 1) := hbw.trans (HBd.out.mono hbw.size)
          have HC1 := hide (IH1.out K K' g p _ d [a0, a1, a2, a3, a4, a5] (wr.drewN 1) (HP.out _ hbd2) ((reads_later HBd.out h).1 _ _ hr))
          rw [HA.out] at HC1
          obtain ⟨k1, hk1⟩ : ∃ k1, (kmz A h).ex d = k1 := ⟨_, rfl⟩
          rw [hk1] at HC1
          have HK1 := hide hk1
          clear hall hb hbx hbx1 hbxw hcs hne hkey hbd2 hbw hr hblt hcl hk1 hd q0 y0 y1 v5
          go_upto_region 6 with fail
          clear v3
          refine wp_region_sch (S := fun w' => ∃ q : Later wr, w' = q.w) [([0, 1, 2, 3, 4, 5], 6)] [7] (by kernel_rfl) (by kernel_rfl) (by kernel_rfl) (by kernel_rfl) ⟨⟨_, HBd.out⟩, rfl⟩ ?_
          simp only [wpSch, pickO, consO, List.getElem?_toArray, List.getElem?_cons_succ, List.getElem?_cons_zero]
          repeat (first | go_big_quiet_skip | (go_big_quiet_want; go_big_quiet_op; go_big_quiet_on))
          refine wpQuiet_nil ?_
          go_wp2_with fail
          refine Calls.mono HC1.out ?_
          rintro ee w4 ⟨rfl, hb4⟩
          have HB4 : Hid (Below wr.heap.size wr w4) := HBd.out.trans (hb4.mono HBd.out.size)
          clear hb4
          go_wp2
          refine ⟨⟨⟨w4, HB4.out⟩, rfl⟩, ?_⟩
          cases k1 with
          | false =>
            have HNO : Hid (x.l.all (kmz A h).ex = false) := all_no HGE.out HK1.out
            repeat (first | go_big_quiet_skip | (go_big_quiet_want; go_big_quiet_op; go_big_quiet_on))
            refine wpQuiet_nil ?_
            go_wp2
            go_ret
            exact ⟨by rw [HKX.out, HO.out, HNO.out]; rfl, HBW.out.trans (HB4.out.mono HBW.out.size)⟩
          | true =>
            repeat (first | go_big_quiet_skip | (go_big_quiet_want; go_big_quiet_op; go_big_quiet_on))
            refine wpQuiet_nil ?_
            go_wp2
            go_roundw
            case rel => exact ⟨i + 1, by omega, by go_num, take_all HGE.out HALL.out HK1.out, HB.out.trans (HB4.out.mono HB.out.size)⟩
            case measure => simp [intOf]; omega
        · have hie : i = x.l.length := by omega
          subst hie
          have hz : x.l.all (kmz A h).ex = true := by
            have h9 := HALL.out
            rw [List.take_length] at h9
            exact List.all_eq_true.2 h9
          have HZ := hide hz
          clear hall hb hbx hbx1 hbw hbxw hz HALL y0 y1 v5
          go_wp2
          clear v3
          generalize wr = V2 at *
          have HBr2 := hide (Below.refl V2.heap.size V2)
          go_loopw [6] (fun t6 wr => ∃ i : Nat, i ≤ x.al.length ∧ t6 = .int .i64 i ∧ (∀ z ∈ x.al.take i, (kmz A h).al z = true) ∧ Below V2.heap.size V2 wr) (fun t6 _ => x.al.length - (intOf t6).toNat)
          case atStart => exact ⟨0, Nat.zero_le _, rfl, fun z hz => by simp at hz, HBr2.out⟩
          case round =>
            obtain ⟨i, hi, rfl, hall, hb⟩ := hrel
            have HALL := hide hall
            have HB2 := hide hb
            have hbw : Below w.heap.size w wr := HBW.out.trans (hb.mono HBW.out.size)
            have HBW2 := hide hbw
            have hbxw := HBXW.out.trans (hb.mono HBXW.out.size)
            have hbx := HBOX.out wr hbxw
            have hbx1 := HBOX1.out wr hbxw
            have y0 := cell_of hbx1 0
            have y1 := cell_of hbx1 1
            have v4 := cell_of hbx 4
            have v5 := cell_of hbx 5
            simp only [List.getElem?_toArray, List.getElem?_cons_succ, List.getElem?_cons_zero] at v4 v5 y0 y1
            by_cases hlt : i < x.al.length
            · have hne : x.al ≠ [] := by intro e; rw [e] at hlt; simp at hlt
              obtain ⟨b, off, eo, -, hblt, hcs⟩ := (HR3.out wr hbw) hne
              subst eo
              obtain ⟨cs, hcl, hkey, hr⟩ := hcs i _ (List.getElem?_eq_getElem hlt)
              obtain ⟨d, hd⟩ : ∃ d, x.al[i] = d := ⟨_, rfl⟩
              have HGE := hide (List.getElem?_eq_getElem hlt)
              rw [hd] at hr HGE
              cases h with
              | zero => exact hr.elim
              | succ h =>
                obtain ⟨-, -, -, -, e, p1, g1, ce, e0, e1, e2, e3, -, e5, s2⟩ := hr
                obtain ⟨m1, n1, m2, n2, m3, n3, rfl⟩ := ex_form s2
                subst e1
                have q0 := hkey 0 _ rfl
                have q1 := hkey 1 _ rfl
                have q2 := hkey 2 _ rfl
                have q3 := hkey 3 _ rfl
                have q4 := hkey 4 _ rfl
                have q5 := hkey 5 _ rfl
                have q6 := hkey 6 _ rfl
                have q7 := hkey 7 _ rfl
                rw [Nat.add_zero] at q0
                have HDE : Hid ((kmz A (h + 1)).al d = (kmA A d && (kmz A h).ex e)) := by
                  show (kmA A d && d.l.all (kmz A h).ex) = _
                  rw [e0]
                  simp
                have hlt2 : (i : Int) < x.al.length := by omega
                obtain ⟨Y, hY⟩ : ∃ Y, wr.alloc (.cells #[.string d.s, .slice p1 d.ss.length g1, .int .i64 e.k, .string e.s, .int .i64 e.n, .slice m1 e.l.length n1, .slice m2 e.ds.length n2, .slice m3 e.al.length n3] 116) = Y := ⟨_, rfl⟩
                have hbY : Below wr.heap.size wr Y := by rw [← hY]; exact (Below.refl _ wr).alloc (Nat.le_refl _) _
                have hboxY : Y.heap[wr.heap.size]? = some (.cells #[.string d.s, .slice p1 d.ss.length g1, .int .i64 e.k, .string e.s, .int .i64 e.n, .slice m1 e.l.length n1, .slice m2 e.ds.length n2, .slice m3 e.al.length n3] 116 (0, 0)) := by rw [← hY]; exact heap_alloc_new wr _
                have t0 := cell_of hboxY 0
                have t1 := cell_of hboxY 1
                have t2 := cell_of hboxY 2
                have t3 := cell_of hboxY 3
                have t4 := cell_of hboxY 4
                have t5 := cell_of hboxY 5
                have t6 := cell_of hboxY 6
                have t7 := cell_of hboxY 7
                simp only [List.getElem?_toArray, List.getElem?_cons_succ, List.getElem?_cons_zero] at t0 t1 t2 t3 t4 t5 t6 t7
                have l0 := lat_cell t0
                have l1 := lat_cell t1
                have l2 := lat_cell t2
                have l3 := lat_cell t3
                have l4 := lat_cell t4
                have l5 := lat_cell t5
                have l6 := lat_cell t6
                have l7 := lat_cell t7
                have l8 := lat_cell ((hbY.cell (p := ⟨w.heap.size, 0, none⟩) (heap_lt hbx1)).trans y0)
                have l9 := lat_cell ((hbY.cell (p := ⟨w.heap.size, 1, none⟩) (heap_lt hbx1)).trans y1)
                have HY := hide hY
                have HBY := hide hbY
                have HBd : Hid (Below Y.heap.size Y (Y.drewN 1)) := (Below.refl _ _).drew
                have HBwY : Hid (∀ W, Below Y.heap.size Y W → Below w.heap.size w W) := fun W hW => hbw.trans ((hbY.trans (hW.mono hbY.size)).mono hbw.size)
                have HC2 : Hid (∀ W, Below Y.heap.size Y W → Calls Tryz.prog 28 #[.agg #[.slice u1 p.l.length d1, .slice u2 p.ds.length d2], .agg #[.int .i64 e.k, .string e.s, .int .i64 e.n, .slice m1 e.l.length n1, .slice m2 e.ds.length n2, .slice m3 e.al.length n3]] W fun ee w' => ee = .returned (.bool ((kmz A h).ex e)) ∧ Below W.heap.size W w') := fun W hW => by
                  have h9 := IH3.out h rfl K K' g p _ e _ W (HP.out _ (HBwY.out W hW)) ((reads_later (hbY.trans (hW.mono hbY.size)) h).1 _ _ s2)
                  rw [HA.out] at h9
                  exact h9
                obtain ⟨k2, hk2⟩ : ∃ k2, (kmz A h).ex e = k2 := ⟨_, rfl⟩
                rw [hk2] at HC2 HDE
                have hne0 : Nonempty (Later Y) := later_nonempty Y
                have hdl : d.ss.length ≤ maxLen := e3.1
                clear hall hb hbxw hbx hbx1 hcs hne hkey hd hcl e5 v4 s2 e2 e3 e0 hY hbY hboxY hblt hbw hk2 t0 t1 t2 t3 t4 t5 t6 t7
                go_upto_region 12 with fail
                rw [HY.out]
                clear v5 q0 q1 q2 q3 q4 q5 q6 q7 y0 y1
                have C1 : Hid (∀ q : Later Y, Calls Tryz.prog 58 #[.agg #[.slice u1 p.l.length d1, .slice u2 p.ds.length d2], .string d.s] q.w fun e w' => e = .returned (.int .i64 (A d.s)) ∧ Below q.w.heap.size q.w w') := fun q => HAR.out q.w (HBwY.out _ q.h) d.s
                have C2 : Hid (∀ q : Later Y, Calls Tryz.prog 28 #[.agg #[.slice u1 p.l.length d1, .slice u2 p.ds.length d2], .agg #[.int .i64 e.k, .string e.s, .int .i64 e.n, .slice m1 e.l.length n1, .slice m2 e.ds.length n2, .slice m3 e.al.length n3]] q.w fun ee w' => ee = .returned (.bool k2) ∧ Below q.w.heap.size q.w w') := fun q => HC2.out q.w q.h
                obtain ⟨n, hn⟩ : ∃ n, A d.s = n := ⟨_, rfl⟩
                rw [hn] at C1
                have HKAD : Hid (kmA A d = ((d.s.toList == []) || (n == (d.ss.length : Int)))) := by rw [← hn]; rfl
                clear hn HC2
                cases hem : (d.s.toList == [])
                · have hem2 : ¬ (d.s.toList = []) := by simpa using hem
                  cases hnd : (n == (d.ss.length : Int))
                  · have hnd2 : ¬ (n = (d.ss.length : Int)) := by simpa using hnd
                    have hnd3 : (n != (d.ss.length : Int)) = true := by simpa using hnd2
                    have hnd4 : decide (n = (d.ss.length : Int)) = false := by simpa using hnd2
                    have HKA : Hid (kmA A d = false) := by rw [HKAD.out, hem, hnd]; rfl
                    refine wp_region_class (S := fun v => Below Y.heap.size Y v) (by kernel_rfl) (by kernel_rfl) (below_drew _) ?_
                    repeat (first | go_big_quiet_skip | (go_big_quiet_want; go_big_quiet_op; first | go_big_quiet_on | (apply Exists.intro; refine ⟨fun q => ?_, ?_⟩; (first | (go_at_call 58; refine (C1.out q).mono ?_; rintro e w9 ⟨rfl, hb9⟩; exact ⟨rfl, Later.on q hb9, rfl⟩) | (go_at_call 28; refine (C2.out q).mono ?_; rintro e w9 ⟨rfl, hb9⟩; exact ⟨rfl, Later.on q hb9, rfl⟩)); go_big_quiet_on)))
                    refine wpQuiet_nil ?_
                    intro _ hw'
                    obtain ⟨q, rfl⟩ := hw'
                    have HNO : Hid (x.al.all (kmz A (h + 1)).al = false) := all_no HGE.out (by rw [HDE.out, HKA.out]; rfl)
                    go_wp2
                    go_ret
                    exact ⟨by rw [HKX.out, HO.out, HZ.out, HNO.out]; rfl, HBwY.out _ q.h⟩
                  · have hnd2 : n = (d.ss.length : Int) := by simpa using hnd
                    have hnd3 : (n != (d.ss.length : Int)) = false := by simpa using hnd2
                    have hnd4 : decide (n = (d.ss.length : Int)) = true := by simpa using hnd2
                    have HKA : Hid (kmA A d = true) := by rw [HKAD.out, hem, hnd]; rfl
                    cases k2 with
                    | false =>
                      refine wp_region_class (S := fun v => Below Y.heap.size Y v) (by kernel_rfl) (by kernel_rfl) (below_drew _) ?_
                      repeat (first | go_big_quiet_skip | (go_big_quiet_want; go_big_quiet_op; first | go_big_quiet_on | (apply Exists.intro; refine ⟨fun q => ?_, ?_⟩; (first | (go_at_call 58; refine (C1.out q).mono ?_; rintro e w9 ⟨rfl, hb9⟩; exact ⟨rfl, Later.on q hb9, rfl⟩) | (go_at_call 28; refine (C2.out q).mono ?_; rintro e w9 ⟨rfl, hb9⟩; exact ⟨rfl, Later.on q hb9, rfl⟩)); go_big_quiet_on)))
                      refine wpQuiet_nil ?_
                      intro _ hw'
                      obtain ⟨q, rfl⟩ := hw'
                      have HNO : Hid (x.al.all (kmz A (h + 1)).al = false) := all_no HGE.out (by rw [HDE.out, HKA.out]; rfl)
                      go_wp2
                      go_ret
                      exact ⟨by rw [HKX.out, HO.out, HZ.out, HNO.out]; rfl, HBwY.out _ q.h⟩
                    | true =>
                      refine wp_region_class (S := fun v => Below Y.heap.size Y v) (by kernel_rfl) (by kernel_rfl) (below_drew _) ?_
                      repeat (first | go_big_quiet_skip | (go_big_quiet_want; go_big_quiet_op; first | go_big_quiet_on | (apply Exists.intro; refine ⟨fun q => ?_, ?_⟩; (first | (go_at_call 58; refine (C1.out q).mono ?_; rintro e w9 ⟨rfl, hb9⟩; exact ⟨rfl, Later.on q hb9, rfl⟩) | (go_at_call 28; refine (C2.out q).mono ?_; rintro e w9 ⟨rfl, hb9⟩; exact ⟨rfl, Later.on q hb9, rfl⟩)); go_big_quiet_on)))
                      refine wpQuiet_nil ?_
                      intro _ hw'
                      obtain ⟨q, rfl⟩ := hw'
                      go_wp2
                      go_roundw
                      case rel => exact ⟨i + 1, by omega, by go_num, take_all HGE.out HALL.out (by rw [HDE.out, HKA.out]; rfl), HB2.out.trans ((HBY.out.trans (q.h.mono HBY.out.size)).mono HB2.out.size)⟩
                      case measure => simp [intOf]; omega
                · have hem2 : d.s.toList = [] := by simpa using hem
                  have HKA : Hid (kmA A d = true) := by rw [HKAD.out, hem]; rfl
                  cases k2 with
                  | false =>
                    refine wp_region_class (S := fun v => Below Y.heap.size Y v) (by kernel_rfl) (by kernel_rfl) (below_drew _) ?_
                    repeat (first | go_big_quiet_skip | (go_big_quiet_want; go_big_quiet_op; first | go_big_quiet_on | (apply Exists.intro; refine ⟨fun q => ?_, ?_⟩; (first | (go_at_call 58; refine (C1.out q).mono ?_; rintro e w9 ⟨rfl, hb9⟩; exact ⟨rfl, Later.on q hb9, rfl⟩) | (go_at_call 28; refine (C2.out q).mono ?_; rintro e w9 ⟨rfl, hb9⟩; exact ⟨rfl, Later.on q hb9, rfl⟩)); go_big_quiet_on)))
                    refine wpQuiet_nil ?_
                    intro _ hw'
                    obtain ⟨q, rfl⟩ := hw'
                    have HNO : Hid (x.al.all (kmz A (h + 1)).al = false) := all_no HGE.out (by rw [HDE.out, HKA.out]; rfl)
                    go_wp2
                    go_ret
                    exact ⟨by rw [HKX.out, HO.out, HZ.out, HNO.out]; rfl, HBwY.out _ q.h⟩
                  | true =>
                    refine wp_region_class (S := fun v => Below Y.heap.size Y v) (by kernel_rfl) (by kernel_rfl) (below_drew _) ?_
                    repeat (first | go_big_quiet_skip | (go_big_quiet_want; go_big_quiet_op; first | go_big_quiet_on | (apply Exists.intro; refine ⟨fun q => ?_, ?_⟩; (first | (go_at_call 58; refine (C1.out q).mono ?_; rintro e w9 ⟨rfl, hb9⟩; exact ⟨rfl, Later.on q hb9, rfl⟩) | (go_at_call 28; refine (C2.out q).mono ?_; rintro e w9 ⟨rfl, hb9⟩; exact ⟨rfl, Later.on q hb9, rfl⟩)); go_big_quiet_on)))
                    refine wpQuiet_nil ?_
                    intro _ hw'
                    obtain ⟨q, rfl⟩ := hw'
                    go_wp2
                    go_roundw
                    case rel => exact ⟨i + 1, by omega, by go_num, take_all HGE.out HALL.out (by rw [HDE.out, HKA.out]; rfl), HB2.out.trans ((HBY.out.trans (q.h.mono HBY.out.size)).mono HB2.out.size)⟩
                    case measure => simp [intOf]; omega
            · have hie : i = x.al.length := by omega
              subst hie
              have hz : x.al.all (kmz A h).al = true := by
                have h9 := HALL.out
                rw [List.take_length] at h9
                exact List.all_eq_true.2 h9
              have HZ2 := hide hz
              have HC3 := hide (IH2.out K K' g p _ x.ds o2 c2 wr (HP.out _ hbw) (HR2.out _ hbw) hl2)
              rw [HA.out] at HC3
              clear hall hb hbx hbx1 hbw hbxw hz
              go_wp2_with fail
              refine Calls.mono HC3.out ?_
              rintro ee w4 ⟨rfl, hb4⟩
              have HB4 := hide hb4
              clear hb4
              go_wp2
              go_ret
              exact ⟨by rw [HKX.out, HO.out, HZ.out, HZ2.out]; rfl, HBW2.out.trans (HB4.out.mono HBW2.out.size)⟩
end Go.Proofs.YtlaeenfeajkcfalGreat.Fr

/- The model's FreeOf. -/
import Derived.Test.YtlaeenfeajkcfalGreatSI
namespace Go.Proofs.YtlaeenfeajkcfalGreat.Fr
open Go.ChangeShapes Go.WideShapes Go.ChangeAt Go.RowKit Go.Proofs.YtlaeenfeajkcfalGreat.Nm
set_option linter.unusedVariables false

theorem ds_few {K : Nat → Prop} {w : World} {h : Nat} {o : Option Addr} {l : List Tr} (r : RowOf K w (reads K w h).de 9 o l) : l.length ≤ (l.map (nmb h).de).sum := by
  cases h with
  | zero =>
    cases l with
    | nil => simp
    | cons q r' =>
      obtain ⟨_, _, _, _, _, hc⟩ := r (by simp)
      obtain ⟨_, _, _, h9⟩ := hc 0 q rfl
      exact h9.elim
  | succ h =>
    clear r
    induction l with
    | nil => simp
    | cons q r ih =>
      have : 1 ≤ (nmb (h + 1)).de q := by
        have e9 : (nmb (h + 1)).de q = 1 + q.ss.length + (q.l.map (nmb h).ex).sum + (q.ds.map (nmb h).de).sum := rfl
        omega
      simp only [List.length_cons, List.map_cons, List.sum_cons]
      omega
set_option maxHeartbeats 4000000 in
set_option maxRecDepth 100000 in
theorem frEx_of {h : Nat} (ih1 : FrEx h) (ih2 : FrDs h) (ih3 : ∀ h', h = h' + 1 → FrEx h') : FrEx (h + 1) := by
  intro K x cs w hr hn
  obtain ⟨-, o1, c1, o2, c2, o3, c3, rfl, hsz, hf1, hf2, hf3, r1, r2, r3⟩ := hr
  have hnn : (nmb (h + 1)).ex x = 1 + (x.l.map (nmb h).ex).sum + (x.al.map (nmb h).al).sum + (x.ds.map (nmb h).de).sum := rfl
  have HNN := hide hnn
  rw [hnn] at hn
  have hdf := ds_few r2
  obtain ⟨X, hX⟩ : ∃ X, (w.alloc (.cells #[.int .i64 x.k, .string x.s, .int .i64 x.n, .slice o1 x.l.length c1, .slice o2 x.ds.length c2, .slice o3 x.al.length c3] 75)).alloc (.cells #[] 9) = X := ⟨_, rfl⟩
  have hbX : Below w.heap.size w X := by rw [← hX]; exact ((Below.refl _ w).alloc (Nat.le_refl _) _).alloc (by simp) _
  have hbox : X.heap[w.heap.size]? = some (.cells #[.int .i64 x.k, .string x.s, .int .i64 x.n, .slice o1 x.l.length c1, .slice o2 x.ds.length c2, .slice o3 x.al.length c3] 75 (0, 0)) := by rw [← hX]; exact (heap_alloc_old _ _ (by simp)).trans (heap_alloc_new w _)
  have hn0 : NRow w.heap.size X (.slice (some ⟨w.heap.size + 1, 0, none⟩) 0 0) [] := by
    have h9 := NRow.empty (w.alloc (.cells #[.int .i64 x.k, .string x.s, .int .i64 x.n, .slice o1 x.l.length c1, .slice o2 x.ds.length c2, .slice o3 x.al.length c3] 75))
    rw [hX] at h9
    have h8 := h9.base (B' := w.heap.size) (by simp)
    simpa using h8
  have HBOX : Hid (∀ W, Below X.heap.size X W → W.heap[w.heap.size]? = some (.cells #[.int .i64 x.k, .string x.s, .int .i64 x.n, .slice o1 x.l.length c1, .slice o2 x.ds.length c2, .slice o3 x.al.length c3] 75 (0, 0))) := fun W hW => (hW.block _ (heap_lt hbox)).trans hbox
  have HN0 := hide hn0
  have HBX := hide hbX
  have HSZ := hide hsz
  have IH1 := hide ih1
  have IH2 := hide ih2
  have IH3 := hide ih3
  have HR1 : Hid (∀ W, Below w.heap.size w W → RowOf K W (reads K W h).ex 6 o1 x.l) := fun W hW => r1.later hW fun _ _ hh => (reads_later hW h).1 _ _ hh
  have HR2 : Hid (∀ W, Below w.heap.size w W → RowOf K W (reads K W h).de 9 o2 x.ds) := fun W hW => r2.later hW fun _ _ hh => (reads_later hW h).2.1 _ _ hh
  have HR3 : Hid (∀ W, Below w.heap.size w W → RowOf K W (reads K W h).al 8 o3 x.al) := fun W hW => r3.later hW fun _ _ hh => (reads_later hW h).2.2 _ _ hh
  have z0 := cell_of hbox 0
  have z1 := cell_of hbox 1
  simp only [List.getElem?_toArray, List.getElem?_cons_succ, List.getElem?_cons_zero] at z0 z1
  have hl1 : x.l.length ≤ 9223372036854775807 := hf1.1
  have hl2 : x.ds.length ≤ 9223372036854775807 := hf2.1
  have hl3 : x.al.length ≤ 9223372036854775807 := hf3.1
  clear r1 r2 r3 hbX hbox hn0 ih1 ih2 ih3 hsz hf1 hf2 hf3 hnn
  by_cases hk1 : x.k = 1
  · have hk1b : (x.k == 1) = true := by simpa using hk1
    have HK1 := hide hk1
    have HPT := hide (put_any (K := fun _ => True) [] x.s (some ⟨w.heap.size + 1, 0, none⟩) 0 X (by simp) HSZ.out (fun h => absurd rfl h) List.Pairwise.nil)
    clear hk1
    go_enter Tryz.func60, Tryz.ntmps60
    go_wp2_with fail
    refine Calls.mono HPT.out ?_
    rintro ee w1 ⟨v1, l1, rfl, hn1, hasc1, hmem1, hlen1, hb1⟩
    have HN1 := hide (hn1.base HBX.out.size)
    have HASC := hide hasc1
    have HMEM := hide hmem1
    have HB1 := hide (HBX.out.trans (hb1.mono HBX.out.size))
    clear hn1 hasc1 hmem1 hb1
    go_wp2
    go_ret
    refine ⟨_, l1, rfl, HN1.out, HASC.out, fun y => ?_, ?_, HB1.out⟩
    · rw [HMEM.out]
      simp only [frm, HK1.out, if_true, List.not_mem_nil, false_or]
      exact ⟨fun h => ⟨h.1, h.1 ▸ h.2⟩, fun h => ⟨h.1, h.1 ▸ h.2⟩⟩
    · rw [HNN.out]
      simp only [List.length_nil] at hlen1
      omega
  have hk1b : (x.k == 1) = false := by simpa using hk1
  have HK1 := hide hk1
  clear hk1 z1
  go_enter Tryz.func60, Tryz.ntmps60
  go_wp2
  clear hX
  go_loopw [3, 4] (fun t3 t4 wr => ∃ (i : Nat) (l : List ByteArray), i ≤ x.l.length ∧ t4 = .int .i64 i ∧ NRow w.heap.size wr t3 l ∧ Asc l ∧ (∀ y, y ∈ l ↔ ∃ c ∈ x.l.take i, (frm h).ex c y) ∧ l.length ≤ ((x.l.take i).map (nmb h).ex).sum ∧ Below X.heap.size X wr) (fun _ t4 _ => x.l.length - (intOf t4).toNat)
  case atStart => exact ⟨0, [], Nat.zero_le _, rfl, HN0.out, List.Pairwise.nil, fun y => by simp, by simp, Below.refl _ _⟩
  case round =>
    obtain ⟨i, l, hi, rfl, hn1, hasc, hmem, hlen, hb⟩ := hrel
    have HASC := hide hasc
    have HMEM := hide hmem
    have HB := hide hb
    have HNR := hide hn1
    have hbw : Below w.heap.size w wr := HBX.out.trans (hb.mono HBX.out.size)
    have HBW := hide hbw
    have hle0 := sum_take_le (nmb h).ex x.l i
    obtain ⟨o5, c5, rfl, -, hr5⟩ := hn1.rowOf
    have hbx := HBOX.out wr hb
    have v0 := cell_of hbx 0
    have v1 := cell_of hbx 1
    have v3 := cell_of hbx 3
    have v4 := cell_of hbx 4
    have v5 := cell_of hbx 5
    simp only [List.getElem?_toArray, List.getElem?_cons_succ, List.getElem?_cons_zero] at v0 v1 v3 v4 v5
    have HR5 : Hid (∀ W, Below wr.heap.size wr W → RowOf (fun _ => True) W strR 1 o5 l) := fun W hW => hr5.frame (Stays.of hW) (fun _ _ => trivial) (fun _ _ h => h)
    by_cases hlt : i < x.l.length
    · have hne : x.l ≠ [] := by intro e; rw [e] at hlt; simp at hlt
      obtain ⟨b, off, eo, -, hblt, hcs⟩ := (HR1.out wr hbw) hne
      subst eo
      obtain ⟨cs, hcl, hkey, hr⟩ := hcs i _ (List.getElem?_eq_getElem hlt)
      have hsum := sum_take_succ (nmb h).ex x.l i hlt
      have hle := sum_take_le (nmb h).ex x.l (i + 1)
      have hmt := fun y => mem_take_succ (fun d => (frm h).ex d y) x.l i hlt
      obtain ⟨d, hd⟩ : ∃ d, x.l[i] = d := ⟨_, rfl⟩
      rw [hd] at hsum hr
      simp only [hd] at hmt
      have HCALL := hide (IH1.out K d cs wr hr (by omega))
      obtain ⟨a0, a1, a2, a3, a4, a5, rfl⟩ := six hcl
      have q0 := hkey 0 _ rfl
      have q1 := hkey 1 _ rfl
      have q2 := hkey 2 _ rfl
      have q3 := hkey 3 _ rfl
      have q4 := hkey 4 _ rfl
      have q5 := hkey 5 _ rfl
      rw [Nat.add_zero] at q0
      have HMT := hide hmt
      have hlt2 : (i : Int) < x.l.length := by omega
      clear hn1 hasc hmem hb hcs hne hkey hr5 hmt hr hblt hcl hbx hbw v0 v1 v4 v5
      go_wp2_with fail
      refine Calls.mono HCALL.out ?_
      rintro ee w4 ⟨v4, l4, rfl, hn4, hasc4, hmem4, hlen4, hb4⟩
      obtain ⟨o8, c8, rfl, -, hr8⟩ := hn4.rowOf
      have HMEM4 := hide hmem4
      have HR8 := hide hr8
      have HB4 := hide hb4
      clear hn4 hasc4 hmem4 hb4 hr8 q0 q1 q2 q3 q4 q5 v3
      go_wp2_with fail
      refine (join_any l l4 o5 o8 c5 c8 _ (by omega) (HR5.out _ HB4.out) HR8.out HASC.out).mono ?_
      rintro ee w5 ⟨v5, l5, rfl, hn5, hasc5, hmem5, hlen5, hb5⟩
      have HB5 : Hid (Below X.heap.size X w5) := HB.out.trans ((HB4.out.trans (hb5.mono HB4.out.size)).mono HB.out.size)
      have HN5 := hide (hn5.base (Nat.le_trans HBW.out.size HB4.out.size))
      have HASC5 := hide hasc5
      have HMEM5 : Hid (∀ y, y ∈ l5 ↔ ∃ d ∈ x.l.take (i + 1), (frm h).ex d y) := fun y => by
        rw [hmem5, HMT.out, HMEM.out, HMEM4.out]
        exact or_congr Iff.rfl ⟨fun h => h.1, fun h9 => ⟨h9, (frm_und h).1 _ _ h9⟩⟩
      clear hn5 hasc5 hmem5 hb5
      go_wp2
      go_roundw
      case rel => exact ⟨i + 1, l5, by omega, by go_num, HN5.out, HASC5.out, HMEM5.out, by omega, HB5.out⟩
      case measure => simp [intOf]; omega
    · have hie : i = x.l.length := by omega
      subst hie
      rw [List.take_length] at hlen hle0 HMEM
      by_cases hk5 : x.k = 5
      · have hk5b : (x.k == 5) = true := by simpa using hk5
        have HK5 := hide hk5
        obtain ⟨Y, hY⟩ : ∃ Y, wr.alloc (.cells #[.string x.s] 9) = Y := ⟨_, rfl⟩
        have hbY : Below wr.heap.size wr Y := by rw [← hY]; exact (Below.refl _ wr).alloc (Nat.le_refl _) _
        have hboxY : Y.heap[wr.heap.size]? = some (.cells #[.string x.s] 9 (0, 0)) := by rw [← hY]; exact heap_alloc_new wr _
        have HL := hide (lessR_any l [x.s] o5 (some ⟨wr.heap.size, 0, none⟩) c5 1 Y (by omega) (by unfold maxLen; simp) (HR5.out _ hbY) (one_row hboxY HSZ.out))
        have HBY := hide (HBW.out.trans (hbY.mono HBW.out.size))
        clear hk5 hn1 hasc hmem hb hr5 hbx hbw hbY hboxY v4 v5
        go_wp2_with fail
        refine Calls.mono HL.out ?_
        rintro ee w5 ⟨v6, rfl, hn5, hb5⟩
        have HN5 := hide (hn5.base HBY.out.size)
        have HB5 := hide (HBY.out.trans (hb5.mono HBY.out.size))
        clear hn5 hb5
        go_wp2
        go_ret
        refine ⟨_, _, rfl, HN5.out, less_asc HASC.out, fun y => ?_, ?_, HB5.out⟩
        · rw [less_mem, HMEM.out]
          simp only [frm, HK5.out]
          simp
        · have := less_len l [x.s]
          rw [HNN.out]
          omega
      have hk5b : (x.k == 5) = false := by simpa using hk5
      have HK5 := hide hk5
      clear hk5
      by_cases hk6 : x.k = 6
      · have hk6b : (x.k == 6) = true := by simpa using hk6
        have HK6 := hide hk6
        have HDN : Hid (∀ W, Below wr.heap.size wr W → Calls Tryz.prog 32 #[.slice o2 x.ds.length c2] W fun e w' => ∃ v, e = .returned v ∧ NRow W.heap.size w' v (x.ds.map Tr.s) ∧ Below W.heap.size W w') := fun W hW => decNames_any x.ds o2 c2 W (HR2.out W (HBW.out.trans (hW.mono HBW.out.size))) (by omega)
        have HFD : Hid (∀ W, Below wr.heap.size wr W → Calls Tryz.prog 13 #[.slice o2 x.ds.length c2] W (AnsF (fun y => (∃ d ∈ x.ds, (frm h).de d y) ∧ y ∉ x.ds.map Tr.s) ((x.ds.map (nmb h).de).sum) W)) := fun W hW => IH2.out K x.ds o2 c2 W (HR2.out W (HBW.out.trans (hW.mono HBW.out.size))) (by omega) (by omega)
        have hq4 := lat_cell v4
        have hne0 : Nonempty (Later wr) := later_nonempty wr
        have HBd : Hid (Below wr.heap.size wr (wr.drewN 1)) := (Below.refl _ _).drew
        clear hk6 hn1 hasc hmem hb hr5 hbx hbw
        go_upto_region 12 with fail
        clear v0 v1 v3 v4 v5
        refine wp_region_sch (S := fun w' => ∃ q : Later wr, w' = q.w) [([0, 1, 2, 5, 6], 3), ([], 4), ([], 7), ([], 8)] [9] (by kernel_rfl) (by kernel_rfl) (by kernel_rfl) (by kernel_rfl) ⟨⟨_, HBd.out⟩, rfl⟩ ?_
        simp only [wpSch, pickO, consO, List.getElem?_toArray, List.getElem?_cons_succ, List.getElem?_cons_zero]
        repeat (first | go_big_quiet_skip | (go_big_quiet_want; go_big_quiet_op; go_big_quiet_on))
        refine wpQuiet_nil ?_
        go_wp2_with fail
        refine Calls.mono (HDN.out _ HBd.out) ?_
        rintro ee w4 ⟨v4, rfl, hn4, hb4⟩
        obtain ⟨o8, c8, rfl, -, hr8⟩ := hn4.rowOf
        have hnl : (x.ds.map Tr.s).length ≤ maxLen := hn4.2.2
        have HB4 : Hid (Below wr.heap.size wr w4) := HBd.out.trans (hb4.mono HBd.out.size)
        have HLS := lessR_any l (x.ds.map Tr.s) o5 o8 c5 c8 w4 (by omega) hnl (HR5.out _ HB4.out) hr8
        rw [List.length_map] at HLS ⊢
        have HL := hide HLS
        clear hn4 hb4 hr8 HLS
        go_wp2
        refine ⟨⟨⟨w4, HB4.out⟩, rfl⟩, ?_⟩
        repeat (first | go_big_quiet_skip | (go_big_quiet_want; go_big_quiet_op; go_big_quiet_on))
        refine wpQuiet_nil ?_
        go_wp2_with fail
        refine Calls.mono HL.out ?_
        rintro ee w5 ⟨v5, rfl, hn5, hb5⟩
        obtain ⟨o9, c9, rfl, -, hr9⟩ := hn5.rowOf
        have HB5 : Hid (Below wr.heap.size wr w5) := HB4.out.trans (hb5.mono HB4.out.size)
        have hl5 := less_len l (x.ds.map Tr.s)
        obtain ⟨lx, hlx⟩ : ∃ lx, lessL l (x.ds.map Tr.s) = lx := ⟨_, rfl⟩
        have HAX : Hid (Asc lx) := by rw [← hlx]; exact less_asc HASC.out
        rw [hlx] at hr9 hl5 ⊢
        have HLX := hide hlx
        have HR9 : Hid (∀ W, Below w5.heap.size w5 W → RowOf (fun _ => True) W strR 1 o9 lx) := fun W hW => hr9.frame (Stays.of hW) (fun _ _ => trivial) (fun _ _ h => h)
        clear hn5 hb5 hr9 hlx
        go_wp2
        refine ⟨⟨⟨w5, HB5.out⟩, rfl⟩, ?_⟩
        repeat (first | go_big_quiet_skip | (go_big_quiet_want; go_big_quiet_op; go_big_quiet_on))
        refine wpQuiet_nil ?_
        go_wp2_with fail
        refine Calls.mono (HFD.out _ HB5.out) ?_
        rintro ee w6 ⟨v6, l6, rfl, hn6, -, hmem6, hlen6, hb6⟩
        obtain ⟨o10, c10, rfl, -, hr10⟩ := hn6.rowOf
        have HB6 : Hid (Below wr.heap.size wr w6) := HB5.out.trans (hb6.mono HB5.out.size)
        have HMEM6 := hide hmem6
        have HJ := hide (join_any lx l6 o9 o10 c9 c10 w6 (by omega) (HR9.out _ hb6) hr10 HAX.out)
        clear hn6 hb6 hmem6 hr10
        go_wp2
        refine ⟨⟨⟨w6, HB6.out⟩, rfl⟩, ?_⟩
        repeat (first | go_big_quiet_skip | (go_big_quiet_want; go_big_quiet_op; go_big_quiet_on))
        refine wpQuiet_nil ?_
        go_wp2_with fail
        refine Calls.mono HJ.out ?_
        rintro ee w7 ⟨v7, l7, rfl, hn7, hasc7, hmem7, hlen7, hb7⟩
        have HB7 : Hid (Below wr.heap.size wr w7) := HB6.out.trans (hb7.mono HB6.out.size)
        have HN7 := hide (hn7.base (Nat.le_trans HBW.out.size HB6.out.size))
        have HASC7 := hide hasc7
        have HMEM7 := hide hmem7
        clear hn7 hb7 hasc7 hmem7
        go_wp2
        refine ⟨⟨⟨w7, HB7.out⟩, rfl⟩, ?_⟩
        repeat (first | go_big_quiet_skip | (go_big_quiet_want; go_big_quiet_op; go_big_quiet_on))
        refine wpQuiet_nil ?_
        go_wp2
        go_ret
        refine ⟨_, l7, rfl, HN7.out, HASC7.out, fun y => ?_, ?_, HBW.out.trans (HB7.out.mono HBW.out.size)⟩
        · rw [HMEM7.out, ← HLX.out, less_mem, HMEM.out, HMEM6.out]
          simp only [frm, HK6.out]
          have hu : ∀ d, (frm h).de d y → y ≠ und := fun d hd => (frm_und h).2.1 d y hd
          constructor
          · rintro (h1 | ⟨h1, -⟩)
            · simp [h1]
            · simp only [show ¬ ((6 : Int) = 1) by omega, show ¬ ((6 : Int) = 5) by omega, if_false, if_true]
              exact .inr h1
          · intro h1
            simp only [show ¬ ((6 : Int) = 1) by omega, show ¬ ((6 : Int) = 5) by omega, if_false, if_true] at h1
            rcases h1 with h1 | h1
            · exact .inl h1
            · obtain ⟨⟨d, hd, h2⟩, h3⟩ := h1
              exact .inr ⟨⟨⟨d, hd, h2⟩, h3⟩, hu d h2⟩
        · rw [HNN.out]
          omega
      have hk6b : (x.k == 6) = false := by simpa using hk6
      have HK6 := hide hk6
      clear hk6
      by_cases hk7 : x.k = 7
      · have hk7b : (x.k == 7) = true := by simpa using hk7
        have HK7 := hide hk7
        clear hk7 hn1 hasc hmem hb hr5 hbx hbw v4
        go_wp2
        clear v0 v1 v3 v5
        generalize wr = V at *
        have HB0 := hide (Below.refl V.heap.size V)
        go_loopw [3, 5] (fun t3 t5 wr => ∃ (i : Nat) (l' : List ByteArray), i ≤ x.al.length ∧ t5 = .int .i64 i ∧ NRow w.heap.size wr t3 l' ∧ Asc l' ∧ (∀ y, y ∈ l' ↔ (∃ c ∈ x.l, (frm h).ex c y) ∨ ∃ c ∈ x.al.take i, (frm h).al c y) ∧ l'.length ≤ (x.l.map (nmb h).ex).sum + ((x.al.take i).map (nmb h).al).sum ∧ Below V.heap.size V wr) (fun _ t5 _ => x.al.length - (intOf t5).toNat)
        case atStart => exact ⟨0, l, Nat.zero_le _, rfl, HNR.out, HASC.out, fun y => by rw [HMEM.out]; simp, by simp; omega, HB0.out⟩
        case round =>
          clear hlen HNR HR5
          obtain ⟨i, l', hi, rfl, hn1, hasc, hmem, hlen, hb⟩ := hrel
          have HASC' := hide hasc
          have HMEM' := hide hmem
          have HNR := hide hn1
          have hbw : Below w.heap.size w wr := HBW.out.trans (hb.mono HBW.out.size)
          have HBW' := hide hbw
          have HB' := hide hb
          have hbx := HBOX.out wr (HB.out.trans (hb.mono HB.out.size))
          have v5 := cell_of hbx 5
          simp only [List.getElem?_toArray, List.getElem?_cons_succ, List.getElem?_cons_zero] at v5
          obtain ⟨o5, c5, rfl, -, hr5⟩ := hn1.rowOf
          by_cases hlt : i < x.al.length
          · have hne : x.al ≠ [] := by intro e; rw [e] at hlt; simp at hlt
            obtain ⟨b, off, eo, -, hblt, hcs⟩ := (HR3.out wr hbw) hne
            subst eo
            obtain ⟨cs, hcl, hkey, hr⟩ := hcs i _ (List.getElem?_eq_getElem hlt)
            have hsum := sum_take_succ (nmb h).al x.al i hlt
            have hle := sum_take_le (nmb h).al x.al (i + 1)
            have hmt := fun y => mem_take_succ (fun d => (frm h).al d y) x.al i hlt
            obtain ⟨d, hd⟩ : ∃ d, x.al[i] = d := ⟨_, rfl⟩
            rw [hd] at hsum hr
            simp only [hd] at hmt
            cases h with
            | zero => exact hr.elim
            | succ h =>
              obtain ⟨-, -, -, -, e, p1, g1, ce, e0, e1, -, e3, s1, e5, s2⟩ := hr
              have hdn : (nmb (h + 1)).al d = d.ss.length + (nmb h).ex e := by
                show d.ss.length + (d.l.map (nmb h).ex).sum = _
                rw [e0]
                simp
              have hdb : ∀ y, (frm (h + 1)).al d y ↔ (frm h).ex e y ∧ y ∉ d.ss := by
                intro y
                show ((∃ c ∈ d.l, (frm h).ex c y) ∧ y ∉ d.ss) ↔ _
                rw [e0]
                simp
              obtain ⟨a0, a1, a2, a3, a4, a5, rfl⟩ := six e5
              subst e1
              have q1 := lat_cell (hkey 1 _ rfl)
              have q2 := lat_cell (hkey 2 _ rfl)
              have q3 := lat_cell (hkey 3 _ rfl)
              have q4 := lat_cell (hkey 4 _ rfl)
              have q5 := lat_cell (hkey 5 _ rfl)
              have q6 := lat_cell (hkey 6 _ rfl)
              have q7 := lat_cell (hkey 7 _ rfl)
              have q8 := lat_cell v5
              have HBd : Hid (Below wr.heap.size wr (wr.drewN 1)) := (Below.refl _ _).drew
              have HCE := hide (IH3.out h rfl K e [a0, a1, a2, a3, a4, a5] (wr.drewN 1) ((reads_later HBd.out h).1 _ _ s2) (by omega))
              have HS1 : Hid (∀ W, Below wr.heap.size wr W → RowOf K W strR 1 p1 d.ss) := fun W hW => s1.later hW fun _ _ h => h
              have HR5 : Hid (∀ W, Below wr.heap.size wr W → RowOf (fun _ => True) W strR 1 o5 l') := fun W hW => hr5.frame (Stays.of hW) (fun _ _ => trivial) (fun _ _ h => h)
              have hssl : d.ss.length ≤ maxLen := e3.1
              have HMT := hide hmt
              have HDB := hide hdb
              have hne0 : Nonempty (Later wr) := later_nonempty wr
              clear hn1 hasc hmem hb hcs hne hkey hr5 hmt hdb s1 s2 e5 hblt hcl hbx hbw e3
              go_upto_region 17 with fail
              clear v5
              refine wp_region_sch (S := fun w' => ∃ q : Later wr, w' = q.w) [([0, 1, 2, 3, 4, 5, 6, 8, 9, 10, 11, 12, 13], 7), ([], 14), ([], 15)] [16] (by kernel_rfl) (by kernel_rfl) (by kernel_rfl) (by kernel_rfl) ⟨⟨_, HBd.out⟩, rfl⟩ ?_
              simp only [wpSch, pickO, consO, List.getElem?_toArray, List.getElem?_cons_succ, List.getElem?_cons_zero]
              repeat (first | go_big_quiet_skip | (go_big_quiet_want; go_big_quiet_op; go_big_quiet_on))
              refine wpQuiet_nil ?_
              go_wp2_with fail
              refine Calls.mono HCE.out ?_
              rintro ee w4 ⟨v4, l4, rfl, hn4, hasc4, hmem4, hlen4, hb4⟩
              obtain ⟨o8, c8, rfl, -, hr8⟩ := hn4.rowOf
              have HB4 : Hid (Below wr.heap.size wr w4) := HBd.out.trans (hb4.mono HBd.out.size)
              have HL := hide (lessR_any l4 d.ss o8 p1 c8 g1 w4 (by omega) hssl hr8 (HS1.out _ HB4.out))
              have HMEM4 := hide hmem4
              clear hn4 hb4 hr8 hasc4 hmem4
              go_wp2
              refine ⟨⟨⟨w4, HB4.out⟩, rfl⟩, ?_⟩
              repeat (first | go_big_quiet_skip | (go_big_quiet_want; go_big_quiet_op; go_big_quiet_on))
              refine wpQuiet_nil ?_
              go_wp2_with fail
              refine Calls.mono HL.out ?_
              rintro ee w5 ⟨v5, rfl, hn5, hb5⟩
              obtain ⟨o9, c9, rfl, -, hr9⟩ := hn5.rowOf
              have HB5 : Hid (Below wr.heap.size wr w5) := HB4.out.trans (hb5.mono HB4.out.size)
              have hl5 := less_len l4 d.ss
              obtain ⟨lx, hlx⟩ : ∃ lx, lessL l4 d.ss = lx := ⟨_, rfl⟩
              have HMX : Hid (∀ y, y ∈ lx ↔ y ∈ l4 ∧ y ∉ d.ss) := fun y => by rw [← hlx]; exact less_mem y
              rw [hlx] at hr9 hl5 ⊢
              have HJ := hide (join_any l' lx o5 o9 c5 c9 w5 (by omega) (HR5.out _ HB5.out) hr9 HASC'.out)
              clear hn5 hb5 hr9 hlx
              go_wp2
              refine ⟨⟨⟨w5, HB5.out⟩, rfl⟩, ?_⟩
              repeat (first | go_big_quiet_skip | (go_big_quiet_want; go_big_quiet_op; go_big_quiet_on))
              refine wpQuiet_nil ?_
              go_wp2_with fail
              refine Calls.mono HJ.out ?_
              rintro ee w7 ⟨v7, l7, rfl, hn7, hasc7, hmem7, hlen7, hb7⟩
              have HB7 : Hid (Below wr.heap.size wr w7) := HB5.out.trans (hb7.mono HB5.out.size)
              have HN7 := hide (hn7.base (Nat.le_trans HBW'.out.size HB5.out.size))
              have HASC7 := hide hasc7
              have HMEM7 := hide hmem7
              clear hn7 hb7 hasc7 hmem7 q1 q2 q3 q4 q5 q6 q7 q8
              go_wp2
              refine ⟨⟨⟨w7, HB7.out⟩, rfl⟩, ?_⟩
              repeat (first | go_big_quiet_skip | (go_big_quiet_want; go_big_quiet_op; go_big_quiet_on))
              refine wpQuiet_nil ?_
              go_wp2
              go_roundw
              case rel =>
                refine ⟨i + 1, l7, by omega, by go_num, HN7.out, HASC7.out, fun y => ?_, by omega, HB'.out.trans (HB7.out.mono HB'.out.size)⟩
                rw [HMEM7.out, HMX.out, HMEM4.out, HMEM'.out, HMT.out, HDB.out, or_assoc]
                exact or_congr Iff.rfl (or_congr Iff.rfl ⟨fun h9 => h9.1, fun h9 => ⟨h9, (frm_und h).1 _ _ h9.1⟩⟩)
              case measure => simp [intOf]; omega
          · have hie : i = x.al.length := by omega
            subst hie
            rw [List.take_length] at hlen HMEM'
            clear hn1 hasc hmem hb hr5 hbx hbw
            go_wp2
            go_ret
            refine ⟨_, l', rfl, HNR.out, HASC'.out, fun y => ?_, ?_, HBW'.out⟩
            · rw [HMEM'.out]
              simp only [frm, HK7.out]
              simp
            · rw [HNN.out]
              omega
      · have hk7b : (x.k == 7) = false := by simpa using hk7
        have HK7 := hide hk7
        clear hk7 hn1 hasc hmem hb hr5 hbx hbw v4 v5
        go_wp2
        go_ret
        refine ⟨_, l, rfl, HNR.out, HASC.out, fun y => ?_, ?_, HBW.out⟩
        · rw [HMEM.out]
          simp only [frm, HK1.out, HK5.out, HK6.out, HK7.out, if_false]
        · rw [HNN.out]
          omega
end Go.Proofs.YtlaeenfeajkcfalGreat.Fr

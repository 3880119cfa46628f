/- The model's ScopeOk. -/
import Derived.Test.YtlaeenfeajkcfalGreatTF
namespace Go.Proofs.YtlaeenfeajkcfalGreat.Fr
open Go.ChangeShapes Go.WideShapes Go.ChangeAt Go.RowKit Go.Proofs.YtlaeenfeajkcfalGreat.Nm Go.Proofs.YtlaeenfeajkcfalGreat.Kn
set_option linter.unusedVariables false

def coM (N : List ByteArray) (h : Nat) (c : Tr) : Bool := c.l.all (tmZ N h)
def daM (N : List ByteArray) (h : Nat) (d : Tr) : Bool := d.l.all (coM N h)
set_option maxHeartbeats 4000000 in
set_option maxRecDepth 100000 in
theorem specScopeOk_any {K : Nat → Prop} {w : World} {h : Nat} {x : Tr} {cs : List Value} (hr : prR K w h x cs) (hN : (consL x.l).length ≤ 1048576) (hT : (x.ds.map (nmb h).de).sum ≤ 5000000) (hl : x.ds.length ≤ 10000000)
    (fm : Bool) (hfm : fm = true ↔ ∀ y, ¬ ((∃ d ∈ x.ds, (frm h).de d y) ∧ y ∉ x.ds.map Tr.s)) :
    Calls Tryz.prog 5 #[.agg cs.toArray] w fun e w' => e = .returned (.bool (progB h x && (x.ds.all (kmz (arityZ x.l) h).de && (fm && x.l.all (daM (x.l.map Tr.s) h))))) ∧ Below w.heap.size w w' := by
  have hr0 := hr
  obtain ⟨-, -, -, -, -, o1, c1, o2, c2, rfl, hl1, hl2, q1, q2⟩ := hr
  obtain ⟨X, hX⟩ : ∃ X, w.alloc (.cells #[.slice o1 x.l.length c1, .slice o2 x.ds.length c2] 31) = X := ⟨_, rfl⟩
  have hbX : Below w.heap.size w X := by rw [← hX]; exact (Below.refl _ w).alloc (Nat.le_refl _) _
  have hbox : X.heap[w.heap.size]? = some (.cells #[.slice o1 x.l.length c1, .slice o2 x.ds.length c2] 31 (0, 0)) := by rw [← hX]; exact heap_alloc_new w _
  have HBX := hide hbX
  have HLT := hide (heap_lt hbox)
  have HP : Hid (∀ W, Below w.heap.size w W → prR K W h x [.slice o1 x.l.length c1, .slice o2 x.ds.length c2]) := fun W hW => prR_later hW h _ _ hr0
  have HQ : Hid (∀ W, Below w.heap.size w W → RowOf K W (daR K W h) 2 o1 x.l) := fun W hW => q1.later hW (daR_later hW h)
  have HC1 := hide (specProgOk_any (HP.out X hbX) hN)
  have HC2 : Hid (∀ W, Below w.heap.size w W → Calls Tryz.prog 12 #[.agg #[.slice o1 x.l.length c1, .slice o2 x.ds.length c2], .slice o2 x.ds.length c2] W fun e w' => e = .returned (.bool (x.ds.all (kmz (arityZ x.l) h).de)) ∧ Below W.heap.size W w') := fun W hW => l7Decs_any h K K h x _ x.ds o2 c2 W (HP.out W hW) (q2.later hW fun _ _ hh => (reads_later hW h).2.1 _ _ hh) hl2.1
  have HC3 : Hid (∀ W, Below w.heap.size w W → Calls Tryz.prog 13 #[.slice o2 x.ds.length c2] W (AnsF (fun y => (∃ d ∈ x.ds, (frm h).de d y) ∧ y ∉ x.ds.map Tr.s) ((x.ds.map (nmb h).de).sum) W)) := fun W hW => frDs_any h K x.ds o2 c2 W (q2.later hW fun _ _ hh => (reads_later hW h).2.1 _ _ hh) hl hT
  have z0 := cell_of hbox 0
  have z1 := cell_of hbox 1
  simp only [List.getElem?_toArray, List.getElem?_cons_succ, List.getElem?_cons_zero] at z0 z1
  have hl3 : x.l.length ≤ 9223372036854775807 := hl1.1
  obtain ⟨b1, hb1⟩ : ∃ b1, progB h x = b1 := ⟨_, rfl⟩
  obtain ⟨b2, hb2⟩ : ∃ b2, x.ds.all (kmz (arityZ x.l) h).de = b2 := ⟨_, rfl⟩
  rw [hb1] at HC1 ⊢
  rw [hb2] at HC2 ⊢
  obtain ⟨N, hNN⟩ : ∃ N, x.l.map Tr.s = N := ⟨_, rfl⟩
  have HNN := hide hNN
  rw [hNN]
  have HFM := hide hfm
  clear hr0 q1 q2 hbX hbox hl1 hl2 hb1 hb2 hNN hfm
  obtain ⟨R, hR⟩ : ∃ R, (b1 && (b2 && (fm && x.l.all (daM N h)))) = R := ⟨_, rfl⟩
  rw [hR]
  have HR := hide hR
  clear hR
  have Z0 : Hid (∀ W, Below X.heap.size X W → W.cell? ⟨w.heap.size, 0, none⟩ = some (.slice o1 x.l.length c1)) := fun W hW => (hW.cell (p := ⟨w.heap.size, 0, none⟩) HLT.out).trans z0
  have Z1 : Hid (∀ W, Below X.heap.size X W → W.cell? ⟨w.heap.size, 1, none⟩ = some (.slice o2 x.ds.length c2)) := fun W hW => (hW.cell (p := ⟨w.heap.size, 1, none⟩) HLT.out).trans z1
  go_enter Tryz.func5, Tryz.ntmps5
  go_wp2_with fail
  refine Calls.mono HC1.out ?_
  rintro ee w1 ⟨rfl, hb1⟩
  have HB1 := hide hb1
  have HW1 := hide (HBX.out.trans (hb1.mono HBX.out.size))
  have x0 := Z0.out w1 hb1
  have x1 := Z1.out w1 hb1
  clear hb1 z0 z1 hX
  cases b1 with
  | false =>
    have HRR : Hid (R = false) := HR.out.symm
    go_wp2
    go_ret
    exact ⟨by rw [HRR.out]; rfl, HW1.out⟩
  | true =>
  go_wp2_with fail
  refine Calls.mono (HC2.out w1 HW1.out) ?_
  rintro ee w2 ⟨rfl, hb2⟩
  have HB2 := hide (HB1.out.trans (hb2.mono HB1.out.size))
  have HW2 := hide (HBX.out.trans (HB2.out.mono HBX.out.size))
  have x2 := Z1.out w2 HB2.out
  clear hb2 x0 x1
  cases b2 with
  | false =>
    have HRR : Hid (R = false) := HR.out.symm
    go_wp2
    go_ret
    exact ⟨by rw [HRR.out]; rfl, HW2.out⟩
  | true =>
  go_wp2_with fail
  refine Calls.mono (HC3.out w2 HW2.out) ?_
  rintro ee w3 ⟨v3, l3, rfl, hn3, -, hmem3, -, hb3⟩
  obtain ⟨o8, c8, rfl, -, -⟩ := hn3.rowOf
  have HB3 := hide (HB2.out.trans (hb3.mono HB2.out.size))
  have HW3 := hide (HBX.out.trans (HB3.out.mono HBX.out.size))
  have HMEM := hide hmem3
  have hl9 : l3.length ≤ maxLen := hn3.2.2
  clear hn3 hmem3 hb3 x2
  by_cases hle : 0 < l3.length
  · have HRR : Hid (R = false) := by
      show R = false
      cases hfe : fm with
      | false => rw [← HR.out, hfe]; rfl
      | true =>
        have h9 := HFM.out.1 hfe
        have h8 : ∃ y, y ∈ l3 := by
          cases l3 with
          | nil => simp at hle
          | cons q r => exact ⟨q, by simp⟩
        obtain ⟨y, hy⟩ := h8
        exact absurd ((HMEM.out y).1 hy) (h9 y)
    have hle2 : (0 : Int) < l3.length := by omega
    go_wp2
    go_ret
    exact ⟨by rw [HRR.out]; rfl, HW3.out⟩
  · have hl0 : l3 = [] := by
      cases l3 with
      | nil => rfl
      | cons q r => simp at hle
    subst hl0
    have HRR : Hid (R = x.l.all (daM N h)) := by
      show R = _
      have h9 : fm = true := HFM.out.2 fun y hy => by
        have := (HMEM.out y).2 hy
        simp at this
      rw [← HR.out, h9]
      rfl
    clear HR HMEM hle hl9
    go_wp2
    have HBr := hide (Below.refl w3.heap.size w3)
    go_loopw [3] (fun t3 wr => ∃ i : Nat, i ≤ x.l.length ∧ t3 = .int .i64 i ∧ (∀ z ∈ x.l.take i, daM N h z = true) ∧ Below w3.heap.size w3 wr) (fun t3 _ => x.l.length - (intOf t3).toNat)
    case atStart => exact ⟨0, Nat.zero_le _, rfl, fun z hz => by simp at hz, HBr.out⟩
    case round =>
      obtain ⟨i, hi, rfl, hall, hb⟩ := hrel
      have HALL := hide hall
      have HBA := hide hb
      have HXA := hide (HB3.out.trans (hb.mono HB3.out.size))
      have HWA := hide (HBX.out.trans (HXA.out.mono HBX.out.size))
      have x0 := Z0.out wr HXA.out
      by_cases hlt : i < x.l.length
      · have hne : x.l ≠ [] := by intro e; rw [e] at hlt; simp at hlt
        obtain ⟨d, hx⟩ : ∃ d, x.l[i]? = some d := ⟨x.l[i], List.getElem?_eq_getElem hlt⟩
        obtain ⟨b, off, eo, -, hbl, hcs⟩ := HQ.out wr HWA.out hne
        subst eo
        obtain ⟨cs, hlen, hkey, hrd⟩ := hcs i d hx
        obtain ⟨-, -, -, -, -, od, cd, rfl, -, hfd, hrd⟩ := hrd
        have q1 := hkey 1 _ rfl
        have HGE := hide hx
        have hlt2 : (i : Int) < x.l.length := by omega
        have hd2 : d.l.length ≤ 9223372036854775807 := hfd.1
        have D1 : Hid (∀ W, Below wr.heap.size wr W → W.cell? ⟨b, off + i * 2 + 1, none⟩ = some (.slice od d.l.length cd)) := fun W hW => (hW.cell (p := ⟨b, off + i * 2 + 1, none⟩) hbl).trans q1
        have DR : Hid (∀ W, Below wr.heap.size wr W → RowOf K W (coR K W h) 2 od d.l) := fun W hW => hrd.later hW (coR_later hW h)
        clear hcs hx hne hkey hlen hrd hfd hall hb hbl q1
        go_wp2
        clear x0
        generalize wr = V at *
        have HBr2 := hide (Below.refl V.heap.size V)
        go_loopw [4] (fun t4 wr => ∃ k : Nat, k ≤ d.l.length ∧ t4 = .int .i64 k ∧ (∀ z ∈ d.l.take k, coM N h z = true) ∧ Below V.heap.size V wr) (fun t4 _ => d.l.length - (intOf t4).toNat)
        case atStart => exact ⟨0, Nat.zero_le _, rfl, fun z hz => by simp at hz, HBr2.out⟩
        case round =>
          obtain ⟨k, hk, rfl, hall, hb⟩ := hrel
          have HALK := hide hall
          have HBV := hide hb
          have HXV := hide (HXA.out.trans (hb.mono HXA.out.size))
          have HWV := hide (HBX.out.trans (HXV.out.mono HBX.out.size))
          have x0 := Z0.out wr HXV.out
          have q1 := D1.out wr hb
          by_cases hkt : k < d.l.length
          · have hne : d.l ≠ [] := by intro e; rw [e] at hkt; simp at hkt
            obtain ⟨c, hx⟩ : ∃ c, d.l[k]? = some c := ⟨d.l[k], List.getElem?_eq_getElem hkt⟩
            obtain ⟨b2, off2, eo, -, hbl, hcs⟩ := DR.out wr hb hne
            subst eo
            obtain ⟨cs, hlen, hkey, hrd⟩ := hcs k c hx
            obtain ⟨-, -, -, -, -, oc, cc, rfl, -, hfd, hrd⟩ := hrd
            have r1 := hkey 1 _ rfl
            have HGK := hide hx
            have hkt2 : (k : Int) < d.l.length := by omega
            have hc2 : c.l.length ≤ 9223372036854775807 := hfd.1
            have C1 : Hid (∀ W, Below wr.heap.size wr W → W.cell? ⟨b2, off2 + k * 2 + 1, none⟩ = some (.slice oc c.l.length cc)) := fun W hW => (hW.cell (p := ⟨b2, off2 + k * 2 + 1, none⟩) hbl).trans r1
            have CR : Hid (∀ W, Below wr.heap.size wr W → RowOf K W (tyR K W h) 4 oc c.l) := fun W hW => hrd.later hW (tyR_later hW h)
            clear hcs hx hne hkey hlen hrd hfd hall hb hbl r1
            go_wp2
            clear x0 q1
            generalize wr = V2 at *
            have HBr3 := hide (Below.refl V2.heap.size V2)
            go_loopw [5] (fun t5 wr => ∃ j : Nat, j ≤ c.l.length ∧ t5 = .int .i64 j ∧ (∀ z ∈ c.l.take j, tmZ N h z = true) ∧ Below V2.heap.size V2 wr) (fun t5 _ => c.l.length - (intOf t5).toNat)
            case atStart => exact ⟨0, Nat.zero_le _, rfl, fun z hz => by simp at hz, HBr3.out⟩
            case round =>
              obtain ⟨j, hj, rfl, hall, hb⟩ := hrel
              have HALJ := hide hall
              have HBJ := hide hb
              have HVJ := hide (HBV.out.trans (hb.mono HBV.out.size))
              have HXJ := hide (HXV.out.trans (hb.mono HXV.out.size))
              have HWJ := hide (HBX.out.trans (HXJ.out.mono HBX.out.size))
              have x0 := Z0.out wr HXJ.out
              have x1 := Z1.out wr HXJ.out
              have q1 := D1.out wr HVJ.out
              have r1 := C1.out wr hb
              by_cases hjt : j < c.l.length
              · have hne : c.l ≠ [] := by intro e; rw [e] at hjt; simp at hjt
                obtain ⟨t, hx⟩ : ∃ t, c.l[j]? = some t := ⟨c.l[j], List.getElem?_eq_getElem hjt⟩
                obtain ⟨b3, off3, eo, -, hbl, hcs⟩ := CR.out wr hb hne
                subst eo
                obtain ⟨cs, hlen, hkey, hrd⟩ := hcs j t hx
                obtain ⟨a0, a1, a2, a3, rfl⟩ := four_of hlen
                have p0 := hkey 0 _ rfl
                rw [Nat.add_zero] at p0
                have s0 := lat_cell x0
                have s1 := lat_cell x1
                have s2 := lat_cell q1
                have s3 := lat_cell r1
                have s4 := lat_cell p0
                have s5 := lat_cell (hkey 1 _ rfl)
                have s6 := lat_cell (hkey 2 _ rfl)
                have s7 := lat_cell (hkey 3 _ rfl)
                have HGJ := hide hx
                have hjt2 : (j : Int) < c.l.length := by omega
                have CT : Hid (∀ q : Later wr, Calls Tryz.prog 14 #[.agg #[.slice (some ⟨b, off, none⟩) x.l.length c1, .slice o2 x.ds.length c2], .agg #[a0, a1, a2, a3]] q.w fun e w' => e = .returned (.bool (tmZ N h t)) ∧ Below q.w.heap.size q.w w') := fun q => by
                  have h9 := l7Type_of h K K h x _ t _ q.w (HP.out _ (HWJ.out.trans (q.h.mono HWJ.out.size))) (tyR_later q.h h _ _ hrd)
                  rw [HNN.out] at h9
                  exact h9
                obtain ⟨bt, hbt⟩ : ∃ bt, tmZ N h t = bt := ⟨_, rfl⟩
                rw [hbt] at CT
                have HBT := hide hbt
                have hne0 : Nonempty (Later wr) := later_nonempty wr
                clear hcs hx hne hkey hlen hrd hall hb hbl p0 hbt
                go_upto_region 12 with fail
                clear x0 x1 q1 r1
                refine wp_region_class (S := fun v => Below wr.heap.size wr v) (by kernel_rfl) (by kernel_rfl) (below_drew _) ?_
                repeat (first | go_big_quiet_skip | (go_big_quiet_want; go_big_quiet_op; first | go_big_quiet_on | (apply Exists.intro; refine ⟨fun q => ?_, ?_⟩; (go_at_call 14; (with_reducible refine Calls.mono (CT.out q) ?_); rintro e w9 ⟨rfl, hb9⟩; exact ⟨rfl, Later.on q hb9, rfl⟩); go_big_quiet_on)))
                refine wpQuiet_nil ?_
                intro _ hw'
                obtain ⟨q, rfl⟩ := hw'
                cases bt with
                | false =>
                  have HNO : Hid (R = false) := by
                    show R = false
                    rw [HRR.out]
                    exact all_no HGE.out (all_no HGK.out (all_no HGJ.out HBT.out))
                  go_wp2
                  go_ret
                  exact ⟨by rw [HNO.out]; rfl, HWJ.out.trans (q.h.mono HWJ.out.size)⟩
                | true =>
                  go_wp2
                  go_roundw
                  case rel => exact ⟨j + 1, by omega, by go_num, take_all HGJ.out HALJ.out HBT.out, HBJ.out.trans (q.h.mono HBJ.out.size)⟩
                  case measure => simp [intOf]; omega
              · have hie : j = c.l.length := by omega
                subst hie
                have hz : coM N h c = true := by
                  have h9 := HALJ.out
                  rw [List.take_length] at h9
                  exact List.all_eq_true.2 h9
                have HZ := hide hz
                clear hall hb hz
                go_wp2
                go_roundw
                case rel => exact ⟨k + 1, by omega, by go_num, take_all HGK.out HALK.out HZ.out, HVJ.out⟩
                case measure => simp [intOf]; omega
          · have hie : k = d.l.length := by omega
            subst hie
            have hz : daM N h d = true := by
              have h9 := HALK.out
              rw [List.take_length] at h9
              exact List.all_eq_true.2 h9
            have HZ := hide hz
            clear hall hb hz
            go_wp2
            go_roundw
            case rel => exact ⟨i + 1, by omega, by go_num, take_all HGE.out HALL.out HZ.out, HBA.out.trans (HBV.out.mono HBA.out.size)⟩
            case measure => simp [intOf]; omega
      · have hie : i = x.l.length := by omega
        subst hie
        have hz : R = true := by
          have h9 := HALL.out
          rw [List.take_length] at h9
          rw [HRR.out]
          exact List.all_eq_true.2 h9
        have HZ := hide hz
        clear hall hb hz
        go_wp2
        go_ret
        exact ⟨by rw [HZ.out]; rfl, HWA.out⟩
end Go.Proofs.YtlaeenfeajkcfalGreat.Fr

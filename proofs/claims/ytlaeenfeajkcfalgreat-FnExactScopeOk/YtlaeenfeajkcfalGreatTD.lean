/- The model's FreeOf, FreeOfDec, l6FreeOfDecs at every height; the model's l7Decs. -/
import Derived.Test.YtlaeenfeajkcfalGreatTC
import Derived.Test.YtlaeenfeajkcfalGreatSM
namespace Go.Proofs.YtlaeenfeajkcfalGreat.Fr
open Go.ChangeShapes Go.WideShapes Go.ChangeAt Go.RowKit Go.Proofs.YtlaeenfeajkcfalGreat.Nm Go.Proofs.YtlaeenfeajkcfalGreat.Kn
set_option linter.unusedVariables false

theorem fr_all : ∀ h, ∀ h', h' ≤ h → FrEx h' ∧ FrDe h' := by
  intro h
  induction h with
  | zero =>
    intro h' hh
    have e : h' = 0 := by omega
    subst e
    exact ⟨fun _ _ _ _ hr _ => hr.elim, fun _ _ _ _ hr _ => hr.elim⟩
  | succ h ih =>
    intro h' hh
    by_cases e : h' ≤ h
    · exact ih h' e
    · have e : h' = h + 1 := by omega
      subst e
      have i1 := ih h (Nat.le_refl _)
      exact ⟨frEx_of i1.1 (frDs_of i1.2) fun g eg => (ih g (by omega)).1, frDe_of i1.1 i1.2⟩
theorem frDs_any (h : Nat) : FrDs h := frDs_of (fr_all h h (Nat.le_refl _)).2

structure Kmz where
  ex : Tr → Bool
  de : Tr → Bool
  al : Tr → Bool
def kmA (A : ByteArray → Int) (a : Tr) : Bool := (a.s.toList == []) || (A a.s == (a.ss.length : Int))
def kmz (A : ByteArray → Int) : Nat → Kmz
  | 0 => ⟨fun _ => false, fun _ => false, fun _ => false⟩
  | h + 1 => ⟨fun e => !((e.k == 2) && decide (A e.s < 0)) && (e.l.all (kmz A h).ex && (e.al.all (kmz A h).al && e.ds.all (kmz A h).de)),
     fun d => d.l.all (kmz A h).ex && d.ds.all (kmz A h).de,
     fun a => kmA A a && a.l.all (kmz A h).ex⟩
def L7Ex (h : Nat) : Prop := ∀ (K K' : Nat → Prop) (g : Nat) (p : Tr) (cp : List Value) (x : Tr) (cs : List Value) (w : World), prR K' w g p cp → (reads K w h).ex x cs →
  Calls Tryz.prog 28 #[.agg cp.toArray, .agg cs.toArray] w fun e w' => e = .returned (.bool ((kmz (arityZ p.l) h).ex x)) ∧ Below w.heap.size w w'
def L7Ds (h : Nat) : Prop := ∀ (K K' : Nat → Prop) (g : Nat) (p : Tr) (cp : List Value) (xs : List Tr) (o : Option Addr) (c : Nat) (w : World), prR K' w g p cp → RowOf K w (reads K w h).de 9 o xs → xs.length ≤ 9223372036854775807 →
  Calls Tryz.prog 12 #[.agg cp.toArray, .slice o xs.length c] w fun e w' => e = .returned (.bool (xs.all (kmz (arityZ p.l) h).de)) ∧ Below w.heap.size w w'
theorem prR_later {K : Nat → Prop} {w w' : World} (hb : Below w.heap.size w w') (h : Nat) : ∀ x cs, prR K w h x cs → prR K w' h x cs := prR_frame (Stays.of hb) (fun _ h => h) h
set_option maxHeartbeats 2000000 in
set_option maxRecDepth 100000 in
theorem l7Ds_of {h : Nat} (ih : ∀ h', h = h' + 1 → L7Ex h' ∧ L7Ds h') : L7Ds h := by
  intro K K' g p cp xs o c w hp hx hl
  obtain ⟨u1, d1, u2, d2, rfl⟩ := pr_form hp
  obtain ⟨X, hX⟩ : ∃ X, w.alloc (.cells #[.slice u1 p.l.length d1, .slice u2 p.ds.length d2] 31) = X := ⟨_, rfl⟩
  have hbX : Below w.heap.size w X := by rw [← hX]; exact (Below.refl _ w).alloc (Nat.le_refl _) _
  have hbox : X.heap[w.heap.size]? = some (.cells #[.slice u1 p.l.length d1, .slice u2 p.ds.length d2] 31 (0, 0)) := by rw [← hX]; exact heap_alloc_new w _
  have HBOX : Hid (∀ W, Below X.heap.size X W → W.heap[w.heap.size]? = some (.cells #[.slice u1 p.l.length d1, .slice u2 p.ds.length d2] 31 (0, 0))) := fun W hW => (hW.block _ (heap_lt hbox)).trans hbox
  have HBX := hide hbX
  have HP : Hid (∀ W, Below w.heap.size w W → prR K' W g p [.slice u1 p.l.length d1, .slice u2 p.ds.length d2]) := fun W hW => prR_later hW g _ _ hp
  have HX : Hid (∀ W, Below w.heap.size w W → RowOf K W (reads K W h).de 9 o xs) := fun W hW => hx.later hW fun _ _ hh => (reads_later hW h).2.1 _ _ hh
  have IH := hide ih
  clear hp hx ih hbX hbox
  obtain ⟨A, hA⟩ : ∃ A, arityZ p.l = A := ⟨_, rfl⟩
  rw [hA]
  have HA := hide hA
  clear hA
  go_enter Tryz.func12, Tryz.ntmps12
  go_wp2
  clear hX
  go_loopw [5] (fun t3 wr => ∃ i : Nat, i ≤ xs.length ∧ t3 = .int .i64 i ∧ (∀ z ∈ xs.take i, (kmz A h).de z = true) ∧ Below X.heap.size X wr) (fun t3 _ => xs.length - (intOf t3).toNat)
  case atStart => exact ⟨0, Nat.zero_le _, rfl, fun z hz => by simp at hz, Below.refl _ _⟩
  case round =>
    obtain ⟨i, hi, rfl, hall, hb⟩ := hrel
    have HALL := hide hall
    have HB := hide hb
    have hbw : Below w.heap.size w wr := HBX.out.trans (hb.mono HBX.out.size)
    have HBW := hide hbw
    have hbx := HBOX.out wr hb
    have v0 := cell_of hbx 0
    have v1 := cell_of hbx 1
    simp only [List.getElem?_toArray, List.getElem?_cons_succ, List.getElem?_cons_zero] at v0 v1
    by_cases hlt : i < xs.length
    · have hne : xs ≠ [] := by intro e; rw [e] at hlt; simp at hlt
      obtain ⟨b, off, eo, -, hblt, hcs⟩ := (HX.out wr hbw) hne
      subst eo
      obtain ⟨cs, hcl, hkey, hr⟩ := hcs i _ (List.getElem?_eq_getElem hlt)
      obtain ⟨d, hd⟩ : ∃ d, xs[i] = d := ⟨_, rfl⟩
      have HGE := hide (List.getElem?_eq_getElem hlt)
      rw [hd] at hr HGE
      cases h with
      | zero => exact hr.elim
      | succ h =>
        obtain ⟨-, -, -, e, p1, e1, ce, p2, e2, el, rfl, -, -, f2, -, lc, re, r2⟩ := hr
        obtain ⟨a0, a1, a2, a3, a4, a5, rfl⟩ := six lc
        have q2 := hkey 2 _ rfl
        have q3 := hkey 3 _ rfl
        have q4 := hkey 4 _ rfl
        have q5 := hkey 5 _ rfl
        have q6 := hkey 6 _ rfl
        have q7 := hkey 7 _ rfl
        have q8 := hkey 8 _ rfl
        have s0 := lat_cell v0
        have s1 := lat_cell v1
        have s2 := lat_cell q2
        have s3 := lat_cell q3
        have s4 := lat_cell q4
        have s5 := lat_cell q5
        have s6 := lat_cell q6
        have s7 := lat_cell q7
        have s8 := lat_cell q8
        have HBd : Hid (Below wr.heap.size wr (wr.drewN 1)) := (Below.refl _ _).drew
        have hlt2 : (i : Int) < xs.length := by omega
        have hne0 : Nonempty (Later wr) := later_nonempty wr
        have hbd2 : Below w.heap.size w (wr.drewN 1) := hbw.trans (HBd.out.mono hbw.size)
        have HC1 := hide ((IH.out h rfl).1 K K' g p _ e [a0, a1, a2, a3, a4, a5] (wr.drewN 1) (HP.out _ hbd2) ((reads_later HBd.out h).1 _ _ re))
        have HC2 : Hid (∀ W, Below wr.heap.size wr W → Calls Tryz.prog 12 #[.agg #[.slice u1 p.l.length d1, .slice u2 p.ds.length d2], .slice p2 d.ds.length e2] W fun e w' => e = .returned (.bool (d.ds.all (kmz A h).de)) ∧ Below W.heap.size W w') := fun W hW => by
          have h9 := (IH.out h rfl).2 K K' g p _ d.ds p2 e2 W (HP.out _ (hbw.trans (hW.mono hbw.size))) (r2.later hW fun _ _ hh => (reads_later hW h).2.1 _ _ hh) f2.1
          rw [HA.out] at h9
          exact h9
        rw [HA.out] at HC1
        have HDE : Hid ((kmz A (h + 1)).de d = ((kmz A h).ex e && d.ds.all (kmz A h).de)) := by
          show (d.l.all (kmz A h).ex && d.ds.all (kmz A h).de) = _
          rw [el]
          simp
        obtain ⟨c1, hc1⟩ : ∃ c1, (kmz A h).ex e = c1 := ⟨_, rfl⟩
        obtain ⟨c2, hc2⟩ : ∃ c2, d.ds.all (kmz A h).de = c2 := ⟨_, rfl⟩
        rw [hc1] at HC1 HDE
        rw [hc2] at HC2 HDE
        have HIX := hide hd
        clear hall hb hbx hcs hne hkey hbd2 hbw re r2 el f2 lc hblt hcl hc1 hc2 q2 q3 q4 q5 q6 q7 q8 v0 v1 hd
        go_upto_region 4 with fail
        refine wp_region_sch (S := fun w' => ∃ q : Later wr, w' = q.w) [([0, 1, 2, 3, 4, 5], 6), ([7, 8, 9, 10, 11, 12, 13, 14], 15)] [16, 17] (by kernel_rfl) (by kernel_rfl) (by kernel_rfl) (by kernel_rfl) ⟨⟨_, HBd.out⟩, rfl⟩ ?_
        simp only [wpSch, pickO, consO, List.getElem?_toArray, List.getElem?_cons_succ, List.getElem?_cons_zero]
        repeat (first | go_big_quiet_skip | (go_big_quiet_want; go_big_quiet_op; go_big_quiet_on))
        refine wpQuiet_nil ?_
        go_wp2_with fail
        refine Calls.mono HC1.out ?_
        rintro ee w4 ⟨rfl, hb4⟩
        have HB4 : Hid (Below wr.heap.size wr w4) := HBd.out.trans (hb4.mono HBd.out.size)
        clear hb4
        cases c1 with
        | false =>
          have HNO : Hid (xs.all (kmz A (h + 1)).de = false) := all_no HGE.out (by rw [HDE.out]; rfl)
          go_wp2
          refine ⟨⟨⟨w4, HB4.out⟩, rfl⟩, ?_⟩
          repeat (first | go_big_quiet_skip | (go_big_quiet_want; go_big_quiet_op; go_big_quiet_on))
          refine wpQuiet_nil ?_
          go_wp2
          refine ⟨⟨⟨w4, HB4.out⟩, rfl⟩, ?_⟩
          repeat (first | go_big_quiet_skip | (go_big_quiet_want; go_big_quiet_op; go_big_quiet_on))
          refine wpQuiet_nil ?_
          go_wp2
          go_ret
          exact ⟨by rw [HNO.out]; rfl, HBW.out.trans (HB4.out.mono HBW.out.size)⟩
        | true =>
          go_wp2
          refine ⟨⟨⟨w4, HB4.out⟩, rfl⟩, ?_⟩
          repeat (first | go_big_quiet_skip | (go_big_quiet_want; go_big_quiet_op; go_big_quiet_on))
          refine wpQuiet_nil ?_
          go_wp2_with fail
          refine Calls.mono (HC2.out _ HB4.out) ?_
          rintro ee w5 ⟨rfl, hb5⟩
          have HB5 : Hid (Below wr.heap.size wr w5) := HB4.out.trans (hb5.mono HB4.out.size)
          clear hb5
          cases c2 with
          | false =>
            have HNO : Hid (xs.all (kmz A (h + 1)).de = false) := all_no HGE.out (by rw [HDE.out]; rfl)
            go_wp2
            refine ⟨⟨⟨w5, HB5.out⟩, rfl⟩, ?_⟩
            repeat (first | go_big_quiet_skip | (go_big_quiet_want; go_big_quiet_op; go_big_quiet_on))
            refine wpQuiet_nil ?_
            go_wp2
            go_ret
            exact ⟨by rw [HNO.out]; rfl, HBW.out.trans (HB5.out.mono HBW.out.size)⟩
          | true =>
            go_wp2
            refine ⟨⟨⟨w5, HB5.out⟩, rfl⟩, ?_⟩
            repeat (first | go_big_quiet_skip | (go_big_quiet_want; go_big_quiet_op; go_big_quiet_on))
            refine wpQuiet_nil ?_
            go_wp2
            go_roundw
            case rel => exact ⟨i + 1, by omega, by go_num, take_all HGE.out HALL.out (by rw [HDE.out]; rfl), HB.out.trans (HB5.out.mono HB.out.size)⟩
            case measure => simp [intOf]; omega
    · have hie : i = xs.length := by omega
      subst hie
      have hz : xs.all (kmz A h).de = true := by
        have h9 := HALL.out
        rw [List.take_length] at h9
        exact List.all_eq_true.2 h9
      clear hall hb hbx hbw
      have HZ := hide hz
      clear hz
      go_wp2
      go_ret
      exact ⟨by rw [HZ.out]; rfl, HBW.out⟩
end Go.Proofs.YtlaeenfeajkcfalGreat.Fr

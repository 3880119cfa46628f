/- The model's small tests of names, kinds and parts. -/
import Derived.Test.YteoghpefilghdakGreatDoorYA
import Derived.Test.YteoghpefilghdakGreatDoorQC
namespace Go.Proofs.YteoghpefilghdakGreatDoor
open Go.ChangeShapes Go.WideShapes Go.ChangeAt Go.RowKit

theorem RowOf.take {α : Type} {K : Nat → Prop} {w : World} {R : α → List Value → Prop} {size : Nat} {o : Option Addr} {xs : List α} (h : RowOf K w R size o xs) (i : Nat) : RowOf K w R size o (xs.take i) := by
  intro hne
  obtain ⟨b, off, e, hk, hl, hc⟩ := h (by intro e; rw [e] at hne; simp at hne)
  refine ⟨b, off, e, hk, hl, fun j x hx => hc j x ?_⟩
  rw [List.getElem?_take] at hx
  split at hx
  · exact hx
  · cases hx

set_option maxHeartbeats 400000 in
theorem hasRow_any {K : Nat → Prop} (xs : List ByteArray) (n : Nat) (hn : xs.length = n) (o : Option Addr) (cap : Nat) (s : ByteArray) (w : World) (hl : xs.length ≤ maxLen) (hm : RowOf K w strR 1 o xs) :
    Calls Tryz.prog 78 #[.slice o n cap, .string s] w fun e w' => e = .returned (.bool (alikeB xs s)) ∧ w' = w := by
  subst hn
  have HM := hide hm
  have hl2 : xs.length ≤ 9223372036854775807 := hl
  clear hm hl
  go_enter Tryz.func78, Tryz.ntmps78
  go_wp2
  go_loop [5] (fun i => ∃ k : Nat, k ≤ xs.length ∧ i = .int .i64 k ∧ alikeB (xs.take k) s = false) (fun i => xs.length - (intOf i).toNat)
  case atStart => exact ⟨0, Nat.zero_le _, rfl, rfl⟩
  case round =>
    obtain ⟨k, hk, rfl, hnone⟩ := hrel
    have HN := hide hnone
    clear hnone
    by_cases hlt : k < xs.length
    · have hne : xs ≠ [] := by intro e; rw [e] at hlt; simp at hlt
      obtain ⟨b, off, eo, -, -, hcs⟩ := HM.out hne
      subst eo
      obtain ⟨_, -, hkey, rfl, -⟩ := hcs k _ (List.getElem?_eq_getElem hlt)
      have q0 := hkey 0 _ rfl
      rw [Nat.mul_one, Nat.add_zero] at q0
      clear hcs hne hkey
      go_wp2
      · go_ret
        exact ⟨ret_bool (any_yes xs s k hlt (by assumption)).symm, rfl⟩
      · go_round
        case rel => exact ⟨k + 1, by omega, by go_num, any_step xs s k hlt HN.out (by assumption)⟩
        case measure => simp [intOf]; omega
    · go_wp2
      go_ret
      refine ⟨ret_bool ?_, rfl⟩
      have h := HN.out
      rw [List.take_of_length_le (by omega)] at h
      exact h.symm

set_option maxHeartbeats 1000000 in
set_option maxRecDepth 100000 in
theorem l3Vars_any {K : Nat → Prop} (xs : List ByteArray) (o : Option Addr) (cap : Nat) (w : World) (hl : xs.length ≤ maxLen) (hc : xs.length ≤ cap) (hm : RowOf K w strR 1 o xs) :
    Calls Tryz.prog 53 #[.slice o xs.length cap] w fun e w' => e = .returned (.bool (varsB xs)) ∧ Below w.heap.size w w' := by
  have HM := hide hm
  have hl2 : xs.length ≤ 9223372036854775807 := hl
  have HL := hide hl
  clear hm hl
  go_enter Tryz.func53, Tryz.ntmps53
  go_wp2
  go_loopw [3] (fun t wr => ∃ k : Nat, k ≤ xs.length ∧ t = .int .i64 k ∧ varsTo xs k = true ∧ Below w.heap.size w wr) (fun t _ => xs.length - (intOf t).toNat)
  case atStart => exact ⟨0, Nat.zero_le _, rfl, rfl, Below.refl _ _⟩
  case round =>
    obtain ⟨k, hk, rfl, hv, hbw⟩ := hrel
    have HV := hide hv
    have HBW := hide hbw
    clear hv hbw
    by_cases hlt : k < xs.length
    · have hne : xs ≠ [] := by intro e; rw [e] at hlt; simp at hlt
      have hmr := HM.out.later HBW.out (fun _ _ h => h)
      have HMR := hide hmr
      obtain ⟨b, off, eo, -, hbl, hcs⟩ := hmr hne
      subst eo
      obtain ⟨x, hx⟩ : ∃ x, xs[k]? = some x := ⟨xs[k], List.getElem?_eq_getElem hlt⟩
      obtain ⟨_, -, hkey, rfl, hxs⟩ := hcs k _ hx
      have q0 := hkey 0 _ rfl
      rw [Nat.mul_one, Nat.add_zero] at q0
      have HX := hide (atZ_of hx)
      have HXS := hide hxs
      clear hcs hne hkey hx hxs
      have hlt2 : (k : Int) < xs.length := by omega
      have hkc : (k : Int) ≤ cap := by omega
      have hkc2 : k ≤ cap := by omega
      cases hu : isU x
      · have hu2 : (x.toList == [95]) = false := hu
        have HU := hide hu
        clear hu
        have hcq : ∀ q : Later wr, q.w.cell? ⟨b, off + k, none⟩ = some (.string x) := fun q => (q.h.cell (p := ⟨b, off + k, none⟩) hbl).trans q0
        have HMQ : Hid (∀ q : Later wr, RowOf K q.w strR 1 (some ⟨b, off, none⟩) (xs.take k)) := fun q => (HMR.out.take k).later q.h (fun _ _ h => h)
        cases hn : nmB x
        · have HN : Hid (nameB x.data.toList = false) := hn
          have HN2 := hide hn
          clear hn
          go_wp2_with fail
          have hne0 : Nonempty (Later wr) := later_nonempty wr
          refine wp_region_class (S := fun v => Below wr.heap.size wr v) (by kernel_rfl) (by kernel_rfl) (below_drew _) ?_
          repeat (first | go_big_quiet_skip | (go_big_quiet_want; go_big_quiet_op; first | go_big_quiet_on | (apply Exists.intro; refine ⟨fun q => ?_, ?_⟩; (first | (go_at_call 52; refine (specName_any _ _ HXS.out).mono ?_; rintro e w1 ⟨rfl, hb1⟩; rw [HN.out]; exact ⟨rfl, Later.on q hb1, rfl⟩)); go_big_quiet_on)))
          refine wpQuiet_nil ?_
          intro _ hw'
          obtain ⟨q, rfl⟩ := hw'
          go_wp2
          go_ret
          refine ⟨ret_bool ?_, HBW.out.trans (q.h.mono HBW.out.size)⟩
          have hf : varsTo xs (k + 1) = false := by
            show (varsTo xs k && _) = false
            rw [HX.out, HU.out, HN2.out]
            simp
          unfold varsB
          rw [varsTo_false hf hlt]
          rfl
        · have HN : Hid (nameB x.data.toList = true) := hn
          have HN2 := hide hn
          clear hn
          cases ha : alikeB (xs.take k) x
          · have HA := hide ha
            clear ha
            go_wp2_with fail
            have hne0 : Nonempty (Later wr) := later_nonempty wr
            refine wp_region_class (S := fun v => Below wr.heap.size wr v) (by kernel_rfl) (by kernel_rfl) (below_drew _) ?_
            repeat (first | go_big_quiet_skip | (go_big_quiet_want; go_big_quiet_op; first | go_big_quiet_on | (apply Exists.intro; refine ⟨fun q => ?_, ?_⟩; (first | (go_at_call 52; refine (specName_any _ _ HXS.out).mono ?_; rintro e w1 ⟨rfl, hb1⟩; rw [HN.out]; exact ⟨rfl, Later.on q hb1, rfl⟩) | (go_at_call 78; refine (hasRow_any (xs.take k) k (by rw [List.length_take]; omega) _ cap x _ (by rw [List.length_take]; exact Nat.le_trans (Nat.min_le_right _ _) HL.out) (HMQ.out q)).mono ?_; rintro e w2 ⟨rfl, rfl⟩; rw [HA.out]; exact ⟨rfl, q, rfl⟩)); go_big_quiet_on)))
            refine wpQuiet_nil ?_
            intro _ hw'
            obtain ⟨q, rfl⟩ := hw'
            go_wp2
            go_roundw
            case rel =>
              refine ⟨k + 1, by omega, by go_num, ?_, HBW.out.trans (q.h.mono HBW.out.size)⟩
              show (varsTo xs k && _) = true
              rw [HX.out, HU.out, HN2.out, HA.out, HV.out]
              rfl
            case measure => simp [intOf]; omega
          · have HA := hide ha
            clear ha
            go_wp2_with fail
            have hne0 : Nonempty (Later wr) := later_nonempty wr
            refine wp_region_class (S := fun v => Below wr.heap.size wr v) (by kernel_rfl) (by kernel_rfl) (below_drew _) ?_
            repeat (first | go_big_quiet_skip | (go_big_quiet_want; go_big_quiet_op; first | go_big_quiet_on | (apply Exists.intro; refine ⟨fun q => ?_, ?_⟩; (first | (go_at_call 52; refine (specName_any _ _ HXS.out).mono ?_; rintro e w1 ⟨rfl, hb1⟩; rw [HN.out]; exact ⟨rfl, Later.on q hb1, rfl⟩) | (go_at_call 78; refine (hasRow_any (xs.take k) k (by rw [List.length_take]; omega) _ cap x _ (by rw [List.length_take]; exact Nat.le_trans (Nat.min_le_right _ _) HL.out) (HMQ.out q)).mono ?_; rintro e w2 ⟨rfl, rfl⟩; rw [HA.out]; exact ⟨rfl, q, rfl⟩)); go_big_quiet_on)))
            refine wpQuiet_nil ?_
            intro _ hw'
            obtain ⟨q, rfl⟩ := hw'
            go_wp2
            go_ret
            refine ⟨ret_bool ?_, HBW.out.trans (q.h.mono HBW.out.size)⟩
            have hf : varsTo xs (k + 1) = false := by
              show (varsTo xs k && _) = false
              rw [HX.out, HU.out, HA.out]
              simp
            unfold varsB
            rw [varsTo_false hf hlt]
            rfl
      · have hu2 : (x.toList == [95]) = true := hu
        have HU := hide hu
        clear hu
        go_wp2
        refine ⟨⟨k + 1, by omega, by go_num, ?_, HBW.out⟩, by simp [intOf]; omega⟩
        show (varsTo xs k && _) = true
        rw [HX.out, HU.out, HV.out]
        rfl
    · go_wp2
      go_ret
      refine ⟨ret_bool ?_, HBW.out⟩
      have hk2 : k = xs.length := by omega
      have h := HV.out
      rw [hk2] at h
      unfold varsB
      rw [h, Bool.true_and]

end Go.Proofs.YteoghpefilghdakGreatDoor

/- For every list of definitions, of whatever parts, the law on DecsOk returns true: the program's DecsOk answers as the model's, and the argument reads as it did. No condition. -/
import Derived.Test.YtgoieaalmlajfaiYQ
namespace Go.Proofs.Ytgoieaalmlajfai.fnExactDecsOk
open Go.ChangeShapes Go.WideShapes Go.ChangeAt Go.RowKit
set_option linter.unusedVariables false

theorem own : ownKnob Try.prog.godebug = none := by kernel_rfl
theorem laidOut : laidOutB Try.prog = true := by kernel_rfl

set_option maxHeartbeats 1000000 in
set_option maxRecDepth 100000 in
theorem walk {h : Nat} (xs : List Tr) (o : Option Addr) (cap : Nat) (w : World) (hl : xs.length ≤ maxLen) (hr : RowOf AllK w (reads AllK w h).de 9 o xs) :
    Calls Try.prog 6 #[.slice o xs.length cap] w fun e w' => e = .returned (.bool true) ∧ Below w.heap.size w w' := by
  have HR := hide hr
  have HL := hide hl
  clear hr hl
  go_enter Try.func6, Try.ntmps6
  go_wp2_with fail
  refine (szDecS_of (sz_all AllK h).2.1 xs o cap _ 1048576 (by omega) (by omega) HL.out HR.out).mono ?_
  rintro e w1 ⟨r, rfl, hr1, hr2, hb⟩
  have HW := hide hr2
  have HB1 := hide hb
  clear hr2 hb
  by_cases hr0 : r < 0
  · go_wp2
    go_ret
    exact ⟨rfl, HB1.out⟩
  have HWT : Hid (lw (wts h).de xs ≤ 1048576) := by
    have h2 := HW.out (by omega)
    exact (by omega : lw (wts h).de xs ≤ 1048576)
  go_wp2_with fail
  refine (toDecS_of (to_all h).2.1 xs o cap _ HWT.out (HR.out.later HB1.out (reads_later HB1.out h).2.1)).mono ?_
  rintro e w2 ⟨o2, c2, rfl, hl2, hrd2, hb, -⟩
  have HRD2 := hide hrd2
  have HB2 := hide (HB1.out.trans (hb.mono HB1.out.size))
  clear hl2 hrd2 hb
  go_wp2_with fail
  refine (specDecsOk_any HRD2.out HL.out).mono ?_
  rintro e w3 ⟨rfl, hb⟩
  have HB3 := hide (HB2.out.trans (hb.mono HB2.out.size))
  clear hb
  generalize hbo : (decsB (okz h).de xs 6 0 && decide (sumZ (cnt h).de xs ≤ 200)) = bo
  have HBO := hide hbo
  clear hbo
  go_wp2_with fail
  refine (toDecS_of (to_all h).2.1 xs o cap _ HWT.out (HR.out.later HB3.out (reads_later HB3.out h).2.1)).mono ?_
  rintro e w4 ⟨o4, c4, rfl, hl4, hrd4, hb, -⟩
  have HRD4 := hide (hrd4.frame (K' := AllK) (Stays.refl _ _) (fun _ _ => trivial) (reads_frame (K' := AllK) (Stays.refl _ _) (fun _ _ => trivial) h).2.1)
  have HB4 := hide (HB3.out.trans (hb.mono HB3.out.size))
  clear hl4 hrd4 hb
  go_wp2_with fail
  have hcall := implDecsOk_any (c := c4) HRD4.out HL.out
  rw [HBO.out] at hcall
  refine hcall.mono ?_
  clear hcall
  rintro e w6 ⟨rfl, hb⟩
  have HB6 := hide (HB4.out.trans (hb.mono HB4.out.size))
  have HRD6 := hide (HRD4.out.later hb (reads_later hb h).2.1)
  have HRA6 := hide (HR.out.later HB6.out (reads_later HB6.out h).2.1)
  clear hb
  cases bo
  all_goals
    go_wp2_with fail
    refine (toDecS_of (to_all h).2.1 xs o cap _ HWT.out HRA6.out).mono ?_
    rintro e w8 ⟨o8, c8, rfl, hl8, hrd8, hb8, -⟩
    have HRD8 := hide (hrd8.frame (K' := AllK) (Stays.refl _ _) (fun _ _ => trivial) (reads_frame (K' := AllK) (Stays.refl _ _) (fun _ _ => trivial) h).2.1)
    have HRX8 := hide (HRD6.out.later hb8 (reads_later hb8 h).2.1)
    have HB8 := hide (HB6.out.trans (hb8.mono HB6.out.size))
    clear hl8 hrd8 hb8
    go_wp2_with fail
    refine (eqDecS_of (eq_all h).2.1 xs HL.out _ _ _ _ _ HRX8.out HRD8.out).mono ?_
    rintro e w9 ⟨rfl, hb9⟩
    have HB9 := hide (HB8.out.trans (hb9.mono HB8.out.size))
    clear hb9
    go_wp2
    go_ret
    exact ⟨rfl, HB9.out⟩

set_option maxRecDepth 100000 in
theorem lifted (os : Os) (started : os.Started) (H : Type) (enc : TypeId × Value → H) :
    ReturnsInHanded {} Try.checked os 6 .any (Rows.fnExactDecsOkSpec.pre6 enc Try.prog Try.f6 Rows.fnExactDecsOkRow.domain false) (Rows.fnExactDecsOkSpec.post enc Try.prog Try.f6 false true false false) := by
  refine returnsInHanded_of_change (C := Try.checked) own started (by kernel_rfl) Try.func6
    (ChangeSpec.witness6 (enc := enc) (C := Try.checked) false ⟨#[], #[.slice none 0 0], []⟩ 8 (by kernel_rfl) (by kernel_rfl) (by kernel_rfl) (by kernel_rfl)) ?_
  intro W base args ds gs before hval0 hW hcnd _
  have hval : ∀ (j : Nat) t v, Try.f6.params[j]? = some t → args[j]? = some v → Value.okWide Try.prog W .any base t v := hval0
  have hW' := hW
  obtain ⟨p, q, hA0, hV, rfl, hfz, hnd⟩ := hW
  have hA : DataW.TrodAll enc Try.prog W 0 (fun _ => true) true Try.f6.params.toList args.toList ds p := hA0
  rw [Try.params6] at hA hval
  obtain ⟨v0, vs0, d0, ds0, p0, q0, hargs, rfl, rfl, h0, r0⟩ := trodAll_cons hA
  obtain ⟨rfl, rfl, rfl⟩ := trodAll_nil r0
  obtain rfl : args = #[v0] := by cases args; simp_all
  obtain ⟨rfl, rfl⟩ := trodVars_none hV
  have hform := okWide_slice Try.underlying33 (hval 0 33 v0 rfl rfl)
  have k0 := h0
  have lt0 : ∀ x ∈ p0, x.block < W.heap.size := by obtain ⟨m, hm⟩ := k0; exact DataW.trod_lt m _ _ _ hm
  obtain ⟨fuel, hf⟩ := h0
  obtain ⟨o, ys, cap, hcs, hfit, hrow⟩ := open_row (R := (reads AllK W fuel).de) Try.underlying33 cells_dec (by decide) (fun n hn cs x hx => (open_tree fuel).2.1 n (Nat.le_of_lt hn) cs x hx) hf
  obtain ⟨o', l', c', rfl⟩ := hform
  simp [Value.cells] at hcs
  obtain ⟨rfl, rfl, rfl⟩ := hcs
  clear hA0 hval0
  refine (walk ys _ _ W hfit.1 hrow).mono fun e W' ⟨he, bel⟩ => ?_
  subst he
  exact ⟨_, rfl, _, _, _, [], _, [], hW', trodAll_mk1 (shut_bool Try.underlying4 _), (trodAll_cons_mk (Below.trod laidOut (by kernel_rfl) (of_decide_eq_true (by kernel_rfl)) k0 bel lt0) trodAll_mk0), rfl, bel.frame _, fun h => by cases h⟩

theorem over : Rows.fnExactDecsOkRow.holds Try.pinned (OpenSpec.ofChange Rows.fnExactDecsOkSpec) :=
  OpenClaim.holds_of_wide 6 Try.f6 rfl rfl rfl rfl rfl rfl rfl ⟨rfl, rfl, rfl, rfl, rfl⟩ rfl rfl rfl rfl rfl (by kernel_rfl) Try.func6 (by kernel_rfl)
    (of_decide_eq_true (by kernel_rfl)) (by unfold Func.isWrapper; first | (rw [if_pos (by decide +kernel)]; kernel_rfl) | (rw [if_neg (by decide +kernel)]; exact ⟨rfl, rfl⟩))
    (fun os started H enc _ => lifted os started H enc)
end Go.Proofs.Ytgoieaalmlajfai.fnExactDecsOk
namespace Go.Proofs.Ytgoieaalmlajfai
theorem fnExactDecsOk_proved : Rows.FnExactDecsOkSaid := fnExactDecsOk.over
end Go.Proofs.Ytgoieaalmlajfai

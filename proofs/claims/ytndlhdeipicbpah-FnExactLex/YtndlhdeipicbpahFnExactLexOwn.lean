/- For every string, of whatever bytes and length, the law on Lex returns true: the program's Lex answers as the model's, Tok by Tok and field by field; its answer lies in memory of its own, which a second call leaves alone; the argument reads as it did. No condition. -/
import Derived.Test.YtndlhdeipicbpahT
import Derived.OpenShut
import Derived.ShutString
import Derived.ChangeOld
namespace Go.Proofs.Ytndlhdeipicbpah.fnExactLex
open Go.ChangeShapes Go.WideShapes Go.ChangeAt Go.RowKit
open Go.ChangeMaps (open_string shut_string)
set_option linter.unusedVariables false

theorem own : ownKnob Try.prog.godebug = none := by kernel_rfl

set_option maxHeartbeats 2000000 in
set_option maxRecDepth 100000 in
theorem walk (a0 : ByteArray) (w0 : a0.size ≤ maxLen) (w : World) :
    Calls Try.prog 5 #[.string a0] w fun e w' => e = .returned (.bool true) ∧ Below w.heap.size w w' := by
  have hm : a0.size ≤ 9223372036854775807 := w0
  by_cases hbig : (1048576 : Int) < a0.size
  · go_enter Try.func5, Try.ntmps5
    go_wp2
    go_ret
    exact ⟨rfl, Below.refl _ _⟩
  have hsm : a0.size ≤ 1048576 := by omega
  have hts := lexTs_short a0.data.toList
  go_enter Try.func5, Try.ntmps5
  go_wp2_with fail
  refine (specLex_any _ _ hsm).mono ?_
  rintro e w1 ⟨v0, rfl, hown0, hb1⟩
  go_wp2_with fail
  refine (implLex_any _ _ w0).mono ?_
  rintro e w2 ⟨v1, rfl, hown1, hb2⟩
  obtain ⟨o0, g0, c0, rfl, hm0, hg0, -⟩ := tokMem_of hown0
  obtain ⟨o1, g1, c1, rfl, hm1, hg1, hop1⟩ := tokMem_of hown1
  have hm0b := tokMem_below hm0 hb2 hm0.1
  have HM0 := hide hm0
  have HM0B := hide hm0b
  have HM1 := hide hm1
  have HG1 := hide hg1
  have HOP1 := hide hop1
  have HB1 := hide hb1
  have HB2 := hide (hb1.trans (hb2.mono hb1.size))
  have HB12 := hide hb2
  clear hm0 hm0b hm1 hg0 hg1 hop1 hb1 hb2 hown0 hown1
  generalize hTS : lexTs a0.data.toList = ts at *
  have HTS := hide hTS
  clear hTS
  have hgn : ∀ {n : Nat}, 0 < ts.length → ts ≠ [] := fun h => List.ne_nil_of_length_pos h
  have HGN : Hid (0 < ts.length → ts ≠ []) := hgn (n := 0)
  clear hgn
  cases hOK : lexOk a0.data.toList
  all_goals
    have HOK := hide hOK
    clear hOK
    go_wp2_with fail
    refine (eqTokS_same ts (by omega) _ _ _ _ _ _ _ HM1.out HM0B.out).mono ?_
    rintro e w3 ⟨rfl, hb3⟩
    have HB3 := hide hb3
    clear hb3
    go_wp2_with fail
    refine (markTokS_any ts.length (by omega) o1 g1 c1 w1.heap.size w3 ?_ ?_ ?_ ?_).mono ?_
    · exact fun h => HG1.out (HGN.out h)
    · exact fun h => Nat.lt_of_lt_of_le (HM1.out.1 (HGN.out h)) HB3.out.size
    · exact fun h => HM1.out.2.1 (HGN.out h)
    · exact fun a ha => open_below HOP1.out HB3.out (HM1.out.1 (HGN.out (by omega))) a ha
    rintro e w4 ⟨rfl, hmm, hb4⟩
    have hM0 : (0 : Int) ≤ ((1 + 4 * ts.length : Nat) : Int) := by omega
    generalize hM : ((1 + 4 * ts.length : Nat) : Int) = M at hM0 ⊢
    have HM := hide hM
    clear hM
    have HG4 : Hid (0 < ts.length → g1 < w4.heap.size) := fun h => Nat.lt_of_lt_of_le (Nat.lt_of_lt_of_le (HM1.out.1 (HGN.out h)) HB3.out.size) hb4.size
    have HMM := hide hmm
    have HB4 := hide hb4
    clear hmm hb4
    go_wp2_with fail
    have hc := heldTokS_any ts.length (by omega) o1 g1 c1 w4 HG4.out (fun h => HM1.out.2.1 (HGN.out h)) HMM.out
    rw [HM.out] at hc
    refine hc.mono ?_
    clear hc
    rintro e w5 ⟨rfl, hb5⟩
    have HB5 := hide hb5
    clear hb5
    go_wp2_with fail
    have hc := implLex_any a0 w5 w0
    rw [HTS.out, HOK.out] at hc
    refine hc.mono ?_
    clear hc
    rintro e w6 ⟨v2, rfl, hown2, hb6⟩
    obtain ⟨o2, g2, c2, rfl, hm2, -, -⟩ := tokMem_of hown2
    have HM2 := hide hm2
    have HB6 := hide hb6
    clear hown2 hm2 hb6
    have HM06 : Hid (TokMem w6 o0 g0 ts) := by
      have h3 := tokMem_below HM0B.out HB3.out HM0B.out.1
      have h4 := tokMem_below h3 HB4.out (fun h => HM0.out.1 h)
      have h5 := tokMem_below h4 HB5.out h4.1
      exact tokMem_below h5 HB6.out h5.1
    go_wp2_with fail
    refine (eqTokS_same ts (by omega) _ _ _ _ _ _ _ HM2.out HM06.out).mono ?_
    rintro e w7 ⟨rfl, hb7⟩
    have HB7 := hide hb7
    clear hb7
    have HMM7 : Hid (MarkMem w7 g1 ts.length) := by
      intro i hi
      have hg := HG4.out (by omega)
      have h5 := markMem_below HMM.out HB5.out hg
      have h6 := markMem_below h5 HB6.out (Nat.lt_of_lt_of_le hg HB5.out.size)
      exact markMem_below h6 HB7.out (Nat.lt_of_lt_of_le (Nat.lt_of_lt_of_le hg HB5.out.size) HB6.out.size) i hi
    go_wp2_with fail
    have hc := heldTokS_any ts.length (by omega) o1 g1 c1 w7 (fun h => Nat.lt_of_lt_of_le (Nat.lt_of_lt_of_le (Nat.lt_of_lt_of_le (HG4.out h) HB5.out.size) HB6.out.size) HB7.out.size) (fun h => HM1.out.2.1 (HGN.out h)) HMM7.out
    rw [HM.out] at hc
    refine hc.mono ?_
    clear hc
    rintro e w8 ⟨rfl, hb8⟩
    have HB8 := hide hb8
    clear hb8
    go_wp2
    go_ret
    refine ⟨rfl, ?_⟩
    have h3 := HB2.out.trans (HB3.out.mono HB2.out.size)
    have h4 := h3.trans (HB4.out.mono HB1.out.size)
    have h5 := h4.trans (HB5.out.mono h4.size)
    have h6 := h5.trans (HB6.out.mono h5.size)
    have h7 := h6.trans (HB7.out.mono h6.size)
    exact h7.trans (HB8.out.mono h7.size)

set_option maxRecDepth 100000 in
theorem lifted (os : Os) (started : os.Started) (H : Type) (enc : TypeId × Value → H) :
    ReturnsInHanded {} Try.checked os 5 .any (Rows.fnExactLexSpec.pre6 enc Try.prog Try.f5 Rows.fnExactLexRow.domain false) (Rows.fnExactLexSpec.post enc Try.prog Try.f5 false true false false) := by
  refine returnsInHanded_of_change (C := Try.checked) own started (by kernel_rfl) Try.func5
    (ChangeSpec.witness6 (enc := enc) (C := Try.checked) false ⟨#[], #[.string ByteArray.empty], []⟩ 8 (by kernel_rfl) (by kernel_rfl) (by kernel_rfl) (by kernel_rfl)) ?_
  intro W base args ds gs before hval0 hW hcnd _
  have hval : ∀ (j : Nat) t v, Try.f5.params[j]? = some t → args[j]? = some v → Value.okWide Try.prog W .any base t v := hval0
  have hW' := hW
  obtain ⟨p, q, hA0, hV, rfl, hfz, hnd⟩ := hW
  have hA : DataW.TrodAll enc Try.prog W 0 (fun _ => true) true Try.f5.params.toList args.toList ds p := hA0
  rw [Try.params5] at hA hval
  obtain ⟨v0, vs0, d0, ds0, p0, q0, hargs, rfl, rfl, h0, r0⟩ := trodAll_cons hA
  obtain ⟨rfl, rfl, rfl⟩ := trodAll_nil r0
  obtain rfl : args = #[v0] := by cases args; simp_all
  obtain ⟨rfl, rfl⟩ := trodVars_none hV
  obtain ⟨a0, rfl, rfl, rfl, w0⟩ := open_string Try.underlying9 (hval 0 9 v0 rfl rfl) h0
  clear hA0 hval0
  simp only [List.append_nil] at hW'
  refine (walk a0 w0 W).mono fun e W' ⟨he, bel⟩ => ?_
  subst he
  exact ⟨_, rfl, _, _, _, [], [], [], hW', trodAll_mk1 (shut_bool Try.underlying4 _), (trodAll_cons_mk (shut_string Try.underlying9 w0) trodAll_mk0), rfl, bel.frame _, fun h => by cases h⟩

theorem over : Rows.fnExactLexRow.holds Try.pinned (OpenSpec.ofChange Rows.fnExactLexSpec) :=
  OpenClaim.holds_of_wide 5 Try.f5 rfl rfl rfl rfl rfl rfl rfl ⟨rfl, rfl, rfl, rfl, rfl⟩ rfl rfl rfl rfl rfl (by kernel_rfl) Try.func5 (by kernel_rfl)
    (of_decide_eq_true (by kernel_rfl)) (by unfold Func.isWrapper; first | (rw [if_pos (by decide +kernel)]; kernel_rfl) | (rw [if_neg (by decide +kernel)]; exact ⟨rfl, rfl⟩))
    (fun os started H enc _ => lifted os started H enc)
end Go.Proofs.Ytndlhdeipicbpah.fnExactLex
namespace Go.Proofs.Ytndlhdeipicbpah
theorem fnExactLex_proved : Rows.FnExactLexSaid := fnExactLex.over
end Go.Proofs.Ytndlhdeipicbpah

/- For every list of Toks, of whatever fields and length, the law on Blocks returns true: the program's Blocks answers as the model's, and the argument reads as it did. No condition. -/
import Derived.Test.YtfcgfinohhhpiaiLI
import Derived.Test.YtfcgfinohhhpiaiLK
import Derived.Test.YtfcgfinohhhpiaiLO
namespace Go.Proofs.Ytfcgfinohhhpiai.fnExactBlocks
open Go.ChangeShapes Go.WideShapes Go.ChangeAt Go.RowKit
set_option linter.unusedVariables false

theorem own : ownKnob Try.prog.godebug = none := by kernel_rfl
theorem laidOut : laidOutB Try.prog = true := by kernel_rfl

set_option maxHeartbeats 2000000 in
set_option maxRecDepth 100000 in
theorem walk (ts : List TokZ) (o : Option Addr) (b off cap : Nat) (hl : ts.length ≤ maxLen) (w : World) (hm : ToksAt w o b off ts) (hs : ∀ t ∈ ts, t.s.size ≤ maxLen) :
    Calls Try.prog 4 #[.slice o ts.length cap] w fun e w' => e = .returned (.bool true) ∧ Below w.heap.size w w' := by
  have HM := hide hm
  have HS := hide hs
  clear hm hs
  go_enter Try.func4, Try.ntmps4
  go_wp2_with fail
  refine (szTokS_any ts o b off cap _ hl HM.out HS.out).mono ?_
  rintro e w1 ⟨r, rfl, hr, hb1⟩
  have HR := hide hr
  have HB1 := hide hb1
  clear hr hb1
  by_cases hr0 : r < 0
  · go_wp2
    go_ret
    exact ⟨rfl, HB1.out⟩
  obtain ⟨hn, -⟩ := HR.out (by omega)
  have HM1 := hide (toksAt_later HM.out HB1.out)
  go_wp2_with fail
  refine (toTokS_any ts o b off cap _ hn HM1.out).mono ?_
  rintro e w2 ⟨v2, rfl, hown2, hb2⟩
  obtain ⟨o2, b2, c2, rfl, hm2, -⟩ := toksAt_of hown2
  have HM2 := hide hm2
  have HB2 := hide (HB1.out.trans (hb2.mono HB1.out.size))
  have HM3 := hide (toksAt_later HM1.out hb2)
  clear hm2 hown2 hb2
  go_wp2_with fail
  refine (specBlocks_any ts hn o2 b2 c2 _ HM2.out).mono ?_
  rintro e w3 ⟨rfl, hb3⟩
  have HB3 := hide (HB2.out.trans (hb3.mono HB2.out.size))
  have HM4 := hide (toksAt_later HM3.out hb3)
  clear hb3
  generalize hN : ((blocksZ ts : Nat) : Int) = N
  have HN := hide hN
  clear hN
  go_wp2_with fail
  refine (toTokS_any ts o b off cap _ hn HM4.out).mono ?_
  rintro e w4 ⟨v4, rfl, hown4, hb4⟩
  obtain ⟨o4, b4, c4, rfl, hm4, -⟩ := toksAt_of hown4
  have HM5 := hide hm4
  have HB4 := hide (HB3.out.trans (hb4.mono HB3.out.size))
  have HM6 := hide (toksAt_later HM4.out hb4)
  clear hm4 hown4 hb4
  go_wp2_with fail
  have hc := implBlocks_any ts hn o4 b4 c4 w4 HM5.out
  rw [HN.out] at hc
  refine hc.mono ?_
  clear hc
  rintro e w5 ⟨rfl, hb5⟩
  have HB5 := hide (HB4.out.trans (hb5.mono HB4.out.size))
  have HM7 := hide (toksAt_later HM6.out hb5)
  have HM8 := hide (toksAt_later HM5.out hb5)
  clear hb5
  go_wp2_with fail
  refine (toTokS_any ts o b off cap _ hn HM7.out).mono ?_
  rintro e w6 ⟨v6, rfl, hown6, hb6⟩
  obtain ⟨o6, b6, c6, rfl, hm6, -⟩ := toksAt_of hown6
  have HM9 := hide hm6
  have HB6 := hide (HB5.out.trans (hb6.mono HB5.out.size))
  have HM10 := hide (toksAt_later HM8.out hb6)
  clear hm6 hown6 hb6
  go_wp2_with fail
  refine (eqTokS_same ts hn _ _ _ _ _ _ _ HM10.out HM9.out).mono ?_
  rintro e w7 ⟨rfl, hb7⟩
  have HB7 := hide (HB6.out.trans (hb7.mono HB6.out.size))
  clear hb7
  go_wp2
  go_ret
  exact ⟨rfl, HB7.out⟩

set_option maxRecDepth 100000 in
theorem lifted (os : Os) (started : os.Started) (H : Type) (enc : TypeId × Value → H) :
    ReturnsInHanded {} Try.checked os 4 .any (Rows.fnExactBlocksSpec.pre6 enc Try.prog Try.f4 Rows.fnExactBlocksRow.domain false) (Rows.fnExactBlocksSpec.post enc Try.prog Try.f4 false true false false) := by
  refine returnsInHanded_of_change (C := Try.checked) own started (by kernel_rfl) Try.func4
    (ChangeSpec.witness6 (enc := enc) (C := Try.checked) false ⟨#[], #[.slice none 0 0], []⟩ 8 (by kernel_rfl) (by kernel_rfl) (by kernel_rfl) (by kernel_rfl)) ?_
  intro W base args ds gs before hval0 hW hcnd _
  have hval : ∀ (j : Nat) t v, Try.f4.params[j]? = some t → args[j]? = some v → Value.okWide Try.prog W .any base t v := hval0
  have hW' := hW
  obtain ⟨p, q, hA0, hV, rfl, hfz, hnd⟩ := hW
  have hA : DataW.TrodAll enc Try.prog W 0 (fun _ => true) true Try.f4.params.toList args.toList ds p := hA0
  rw [Try.params4] at hA hval
  obtain ⟨v0, vs0, d0, ds0, p0, q0, hargs, rfl, rfl, h0, r0⟩ := trodAll_cons hA
  obtain ⟨rfl, rfl, rfl⟩ := trodAll_nil r0
  obtain rfl : args = #[v0] := by cases args; simp_all
  obtain ⟨rfl, rfl⟩ := trodVars_none hV
  have hform := okWide_slice Try.underlying22 (hval 0 22 v0 rfl rfl)
  have k0 := h0
  have lt0 : ∀ x ∈ p0, x.block < W.heap.size := by obtain ⟨m, hm⟩ := k0; exact DataW.trod_lt m _ _ _ hm
  obtain ⟨ts, o, b, off, cap, rfl, hl, hm, hs⟩ := open_toks h0 hform
  clear hA0 hval0
  refine (walk ts o b off cap hl W hm hs).mono fun e W' ⟨he, bel⟩ => ?_
  subst he
  exact ⟨_, rfl, _, _, _, [], _, [], hW', trodAll_mk1 (shut_bool Try.underlying4 _), (trodAll_cons_mk (Below.trod laidOut (by kernel_rfl) (of_decide_eq_true (by kernel_rfl)) k0 bel lt0) trodAll_mk0), rfl, bel.frame _, fun h => by cases h⟩

theorem over : Rows.fnExactBlocksRow.holds Try.pinned (OpenSpec.ofChange Rows.fnExactBlocksSpec) :=
  OpenClaim.holds_of_wide 4 Try.f4 rfl rfl rfl rfl rfl rfl rfl ⟨rfl, rfl, rfl, rfl, rfl⟩ rfl rfl rfl rfl rfl (by kernel_rfl) Try.func4 (by kernel_rfl)
    (of_decide_eq_true (by kernel_rfl)) (by unfold Func.isWrapper; first | (rw [if_pos (by decide +kernel)]; kernel_rfl) | (rw [if_neg (by decide +kernel)]; exact ⟨rfl, rfl⟩))
    (fun os started H enc _ => lifted os started H enc)
end Go.Proofs.Ytfcgfinohhhpiai.fnExactBlocks
namespace Go.Proofs.Ytfcgfinohhhpiai
theorem fnExactBlocks_proved : Rows.FnExactBlocksSaid := fnExactBlocks.over
end Go.Proofs.Ytfcgfinohhhpiai

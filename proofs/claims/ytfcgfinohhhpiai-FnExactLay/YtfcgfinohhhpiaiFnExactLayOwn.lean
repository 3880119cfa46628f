/- For every list of Toks, of whatever fields and length, the law on Lay returns true: the program's Lay answers as the model's, Tok by Tok and field by field, and whether it could; it writes into no argument and keeps nothing of one; its answer lies in memory of its own, which a second call leaves alone; the argument reads as it did. No condition. -/
import Derived.Test.YtfcgfinohhhpiaiLI
import Derived.Test.YtfcgfinohhhpiaiLJ
import Derived.Test.YtfcgfinohhhpiaiLV
import Derived.Test.YtfcgfinohhhpiaiLX
import Derived.Test.YtfcgfinohhhpiaiLO
namespace Go.Proofs.Ytfcgfinohhhpiai.fnExactLay
open Go.ChangeShapes Go.WideShapes Go.ChangeAt Go.RowKit
set_option linter.unusedVariables false

theorem own : ownKnob Try.prog.godebug = none := by kernel_rfl
theorem laidOut : laidOutB Try.prog = true := by kernel_rfl

set_option maxHeartbeats 8000000 in
set_option maxRecDepth 100000 in
theorem walk (ts : List TokZ) (o : Option Addr) (b off cap : Nat) (hl : ts.length ≤ maxLen) (w : World) (hm : ToksAt w o b off ts) (hs : ∀ t ∈ ts, t.s.size ≤ maxLen) :
    Calls Try.prog 3 #[.slice o ts.length cap] w fun e w' => e = .returned (.bool true) ∧ Below w.heap.size w w' := by
  have HM := hide hm
  have HS := hide hs
  clear hm hs
  go_enter Try.func3, Try.ntmps3
  go_wp2_with fail
  refine (szTokS_any ts o b off cap _ hl HM.out HS.out).mono ?_
  rintro e w1 ⟨r, rfl, hr, hb1⟩
  have HR := hide hr
  have HB1 := hide hb1
  clear hr hb1
  by_cases hr0 : r < 0
  · go_wp2
    go_ret
    exact ⟨rfl, HB1.out⟩
  obtain ⟨hn, hss⟩ := HR.out (by omega)
  have HSS := hide hss
  clear hss HS HR
  have HM1 := hide (toksAt_later HM.out HB1.out)
  go_wp2_with fail
  refine (toTokS_any ts o b off cap _ hn HM1.out).mono ?_
  rintro e w2 ⟨v2, rfl, hown2, hb2⟩
  obtain ⟨o2, b2, c2, rfl, hm2, -⟩ := toksAt_of hown2
  have HA2 := hide hm2
  have HB2 := hide (HB1.out.trans (hb2.mono HB1.out.size))
  have HM2 := hide (toksAt_later HM1.out hb2)
  clear hm2 hown2 hb2
  have hLL := laidTs_short ts
  go_wp2_with fail
  refine (specLay_any ts hn o2 b2 c2 _ HA2.out).mono ?_
  rintro e w3 ⟨v3, rfl, hown3, hb3⟩
  obtain ⟨o3, b3, c3, rfl, hm3, hge3, -⟩ := toksAt_open hown3
  have HW3 := hide hm3
  have HB3 := hide (HB2.out.trans (hb3.mono HB2.out.size))
  have HM3 := hide (toksAt_later HM2.out hb3)
  clear hm3 hown3 hb3 hge3
  generalize hLT : laidTs ts = L at *
  have HLT := hide hLT
  clear hLT
  cases hOK : laidOk ts
  all_goals
    have HOK := hide hOK
    clear hOK
    go_wp2_with fail
    refine (toTokS_any ts o b off cap _ hn HM3.out).mono ?_
    rintro e w4 ⟨v4, rfl, hown4, hb4⟩
    obtain ⟨o4, b4, c4, rfl, hm4, hge4, hop4⟩ := toksAt_open hown4
    have HX4 := hide hm4
    have HGE4 := hide hge4
    have HOP4 := hide hop4
    have HB4 := hide (HB3.out.trans (hb4.mono HB3.out.size))
    have HM4 := hide (toksAt_later HM3.out hb4)
    have HW4 := hide (toksAt_later HW3.out hb4)
    have hsz4 := hb4.size
    clear hm4 hown4 hb4 hge4 hop4
    go_wp2_with fail
    have hc := I.implLay_any ts hn HSS.out o4 b4 c4 w4 HX4.out
    rw [HLT.out, HOK.out] at hc
    refine hc.mono ?_
    clear hc
    rintro e w5 ⟨v5, rfl, hown5, hb5⟩
    obtain ⟨o5, b5, c5, rfl, hm5, hge5, hop5⟩ := toksAt_open hown5
    have HG5 := hide hm5
    have HGE5 := hide hge5
    have HOP5 := hide hop5
    have HB5 := hide (HB4.out.trans (hb5.mono HB4.out.size))
    have HM5 := hide (toksAt_later HM4.out hb5)
    have HW5 := hide (toksAt_later HW4.out hb5)
    have HX5 := hide (toksAt_later HX4.out hb5)
    have HOX5 : Hid (ts ≠ [] → Open w5 b4 (ts.length * 4)) := fun hne => open_below HOP4.out hb5 (HX4.out hne).2.1
    have hsz5 := hb5.size
    clear hm5 hown5 hb5 hge5 hop5
    go_wp2_with fail
    refine (eqTokS_same L (by omega) _ _ _ _ _ _ _ HG5.out HW5.out).mono ?_
    rintro e w6 ⟨rfl, hb6⟩
    have HB6 := hide (HB5.out.trans (hb6.mono HB5.out.size))
    have HM6 := hide (toksAt_later HM5.out hb6)
    have HW6 := hide (toksAt_later HW5.out hb6)
    have HX6 := hide (toksAt_later HX5.out hb6)
    have HG6 := hide (toksAt_later HG5.out hb6)
    have HOX6 : Hid (ts ≠ [] → Open w6 b4 (ts.length * 4)) := fun hne => open_below (HOX5.out hne) hb6 (HX5.out hne).2.1
    have HOG6 : Hid (L ≠ [] → Open w6 b5 (L.length * 4)) := fun hne => open_below HOP5.out hb6 (HG5.out hne).2.1
    have hsz6 := hb6.size
    clear hb6
    go_wp2_with fail
    refine (toTokS_any ts o b off cap _ hn HM6.out).mono ?_
    rintro e w7 ⟨v7, rfl, hown7, hb7⟩
    obtain ⟨o7, b7, c7, rfl, hm7, -⟩ := toksAt_of hown7
    have HY7 := hide hm7
    have HB7 := hide (HB6.out.trans (hb7.mono HB6.out.size))
    have HM7 := hide (toksAt_later HM6.out hb7)
    have HW7 := hide (toksAt_later HW6.out hb7)
    have HX7 := hide (toksAt_later HX6.out hb7)
    have HG7 := hide (toksAt_later HG6.out hb7)
    have HOX7 : Hid (ts ≠ [] → Open w7 b4 (ts.length * 4)) := fun hne => open_below (HOX6.out hne) hb7 (HX6.out hne).2.1
    have HOG7 : Hid (L ≠ [] → Open w7 b5 (L.length * 4)) := fun hne => open_below (HOG6.out hne) hb7 (HG6.out hne).2.1
    have hsz7 := hb7.size
    clear hm7 hown7 hb7
    go_wp2_with fail
    refine (eqTokS_same ts hn _ _ _ _ _ _ _ HX7.out HY7.out).mono ?_
    rintro e w8 ⟨rfl, hb8⟩
    have HB8 := hide (HB7.out.trans (hb8.mono HB7.out.size))
    have HM8 := hide (toksAt_later HM7.out hb8)
    have HW8 := hide (toksAt_later HW7.out hb8)
    have HX8 := hide (toksAt_later HX7.out hb8)
    have HG8 := hide (toksAt_later HG7.out hb8)
    have HOX8 : Hid (ts ≠ [] → Open w8 b4 (ts.length * 4)) := fun hne => open_below (HOX7.out hne) hb8 (HX7.out hne).2.1
    have HOG8 : Hid (L ≠ [] → Open w8 b5 (L.length * 4)) := fun hne => open_below (HOG7.out hne) hb8 (HG7.out hne).2.1
    have hsz8 := hb8.size
    clear hb8
    have hszw := HB3.out.size
    go_wp2_with fail
    refine (markTokS_any ts.length hn o4 b4 c4 w8 ?_ ?_ ?_).mono ?_
    · exact fun h => (HX8.out (ne_nil h)).2.1
    · exact fun h => (HX8.out (ne_nil h)).1
    · exact fun a ha => HOX8.out (ne_nil (by omega)) a ha
    rintro e w9 ⟨rfl, -, hk9⟩
    have hM0 : (0 : Int) ≤ ((1 + 4 * ts.length : Nat) : Int) := by omega
    generalize ((1 + 4 * ts.length : Nat) : Int) = M0 at hM0 ⊢
    have HB9 : Hid (Below w.heap.size w w9) := HB8.out.trans ((hk9.mono fun k (hk : k < w.heap.size) => ⟨Nat.lt_of_lt_of_le hk HB8.out.size, fun h e => by have := HGE4.out (ne_nil h); omega⟩).below)
    have HM9 := hide (toksAt_keeps HM8.out hk9 fun hne => ⟨(HM8.out hne).2.1, fun h e => by have h1 := HGE4.out (ne_nil h); have h2 := (HM.out hne).2.1; omega⟩)
    have HW9 := hide (toksAt_keeps HW8.out hk9 fun hne => ⟨(HW8.out hne).2.1, fun h e => by have h1 := HGE4.out (ne_nil h); have h2 := (HW3.out hne).2.1; omega⟩)
    have HKG : Hid (L ≠ [] → b5 < w8.heap.size ∧ (0 < ts.length → b5 ≠ b4)) := fun hne => ⟨(HG8.out hne).2.1, fun h e => by have h1 := HGE5.out hne; have h2 := (HX4.out (ne_nil h)).2.1; omega⟩
    have HG9 := hide (toksAt_keeps HG8.out hk9 HKG.out)
    have HOG9 : Hid (L ≠ [] → Open w9 b5 (L.length * 4)) := fun hne a ha => by
      obtain ⟨⟨u, hu⟩, hf⟩ := HOG8.out hne a ha
      have hbk := hk9.block b5 (HKG.out hne)
      exact ⟨⟨u, (World.cell?_of_block (a := ⟨b5, a, none⟩) hbk).trans hu⟩, (World.frozen?_of_block (a := ⟨b5, a, none⟩) hbk).trans hf⟩
    have hsz9 := hk9.size
    clear hk9
    go_wp2_with fail
    refine (eqTokS_same L (by omega) _ _ _ _ _ _ _ HG9.out HW9.out).mono ?_
    rintro e w10 ⟨rfl, hb10⟩
    have HB10 := hide (HB9.out.trans (hb10.mono HB9.out.size))
    have HM10 := hide (toksAt_later HM9.out hb10)
    have HW10 := hide (toksAt_later HW9.out hb10)
    have HG10 := hide (toksAt_later HG9.out hb10)
    have HOG10 : Hid (L ≠ [] → Open w10 b5 (L.length * 4)) := fun hne => open_below (HOG9.out hne) hb10 (HG9.out hne).2.1
    have hsz10 := hb10.size
    clear hb10
    go_wp2_with fail
    refine (markTokS_any L.length (by omega) o5 b5 c5 w10 ?_ ?_ ?_).mono ?_
    · exact fun h => (HG10.out (ne_nil h)).2.1
    · exact fun h => (HG10.out (ne_nil h)).1
    · exact fun a ha => HOG10.out (ne_nil (by omega)) a ha
    rintro e w11 ⟨rfl, hmm, hk11⟩
    have hM1 : (0 : Int) ≤ ((1 + 4 * L.length : Nat) : Int) := by omega
    generalize hMM : ((1 + 4 * L.length : Nat) : Int) = M1 at hM1 ⊢
    have HMM := hide hMM
    clear hMM
    have HB11 : Hid (Below w.heap.size w w11) := HB10.out.trans ((hk11.mono fun k (hk : k < w.heap.size) => ⟨Nat.lt_of_lt_of_le hk HB10.out.size, fun h e => by have := HGE5.out (ne_nil h); omega⟩).below)
    have HM11 := hide (toksAt_keeps HM10.out hk11 fun hne => ⟨(HM10.out hne).2.1, fun h e => by have h1 := HGE5.out (ne_nil h); have h2 := (HM.out hne).2.1; omega⟩)
    have HW11 := hide (toksAt_keeps HW10.out hk11 fun hne => ⟨(HW10.out hne).2.1, fun h e => by have h1 := HGE5.out (ne_nil h); have h2 := (HW3.out hne).2.1; omega⟩)
    have HMK11 := hide hmm
    have HGB11 : Hid (0 < L.length → b5 < w11.heap.size ∧ o5 = some ⟨b5, 0, none⟩) := fun h => ⟨Nat.lt_of_lt_of_le (HG10.out (ne_nil h)).2.1 hk11.size, (HG10.out (ne_nil h)).1⟩
    clear hmm hk11
    go_wp2_with fail
    have hc := heldTokS_any L.length (by omega) o5 b5 c5 w11 (fun h => (HGB11.out h).1) (fun h => (HGB11.out h).2) HMK11.out
    rw [HMM.out] at hc
    refine hc.mono ?_
    clear hc
    rintro e w12 ⟨rfl, hb12⟩
    have HB12 := hide (HB11.out.trans (hb12.mono HB11.out.size))
    have HM12 := hide (toksAt_later HM11.out hb12)
    have HW12 := hide (toksAt_later HW11.out hb12)
    have HMK12 : Hid (MarkMem w12 b5 L.length) := fun i hi => markMem_below HMK11.out hb12 (HGB11.out (by omega)).1 i hi
    have HGB12 : Hid (0 < L.length → b5 < w12.heap.size) := fun h => Nat.lt_of_lt_of_le (HGB11.out h).1 hb12.size
    clear hb12
    go_wp2_with fail
    refine (toTokS_any ts o b off cap _ hn HM12.out).mono ?_
    rintro e w13 ⟨v13, rfl, hown13, hb13⟩
    obtain ⟨o13, b13, c13, rfl, hm13, -⟩ := toksAt_of hown13
    have HX13 := hide hm13
    have HB13 := hide (HB12.out.trans (hb13.mono HB12.out.size))
    have HW13 := hide (toksAt_later HW12.out hb13)
    have HMK13 : Hid (MarkMem w13 b5 L.length) := fun i hi => markMem_below HMK12.out hb13 (HGB12.out (by omega)) i hi
    have HGB13 : Hid (0 < L.length → b5 < w13.heap.size) := fun h => Nat.lt_of_lt_of_le (HGB12.out h) hb13.size
    clear hb13 hown13 hm13
    go_wp2_with fail
    have hc := I.implLay_any ts hn HSS.out o13 b13 c13 w13 HX13.out
    rw [HLT.out, HOK.out] at hc
    refine hc.mono ?_
    clear hc
    rintro e w14 ⟨v14, rfl, hown14, hb14⟩
    obtain ⟨o14, b14, c14, rfl, hm14, -⟩ := toksAt_of hown14
    have HH14 := hide hm14
    have HB14 := hide (HB13.out.trans (hb14.mono HB13.out.size))
    have HW14 := hide (toksAt_later HW13.out hb14)
    have HMK14 : Hid (MarkMem w14 b5 L.length) := fun i hi => markMem_below HMK13.out hb14 (HGB13.out (by omega)) i hi
    have HGB14 : Hid (0 < L.length → b5 < w14.heap.size) := fun h => Nat.lt_of_lt_of_le (HGB13.out h) hb14.size
    clear hb14 hown14 hm14
    go_wp2_with fail
    refine (eqTokS_same L (by omega) _ _ _ _ _ _ _ HH14.out HW14.out).mono ?_
    rintro e w15 ⟨rfl, hb15⟩
    have HB15 := hide (HB14.out.trans (hb15.mono HB14.out.size))
    have HMK15 : Hid (MarkMem w15 b5 L.length) := fun i hi => markMem_below HMK14.out hb15 (HGB14.out (by omega)) i hi
    have HGB15 : Hid (0 < L.length → b5 < w15.heap.size) := fun h => Nat.lt_of_lt_of_le (HGB14.out h) hb15.size
    clear hb15
    go_wp2_with fail
    have hc := heldTokS_any L.length (by omega) o5 b5 c5 w15 HGB15.out (fun h => (HGB11.out h).2) HMK15.out
    rw [HMM.out] at hc
    refine hc.mono ?_
    clear hc
    rintro e w16 ⟨rfl, hb16⟩
    have HB16 := hide (HB15.out.trans (hb16.mono HB15.out.size))
    clear hb16
    go_wp2
    go_ret
    exact ⟨rfl, HB16.out⟩

set_option maxRecDepth 100000 in
theorem lifted (os : Os) (started : os.Started) (H : Type) (enc : TypeId × Value → H) :
    ReturnsInHanded {} Try.checked os 3 .any (Rows.fnExactLaySpec.pre6 enc Try.prog Try.f3 Rows.fnExactLayRow.domain false) (Rows.fnExactLaySpec.post enc Try.prog Try.f3 false true false false) := by
  refine returnsInHanded_of_change (C := Try.checked) own started (by kernel_rfl) Try.func3
    (ChangeSpec.witness6 (enc := enc) (C := Try.checked) false ⟨#[], #[.slice none 0 0], []⟩ 8 (by kernel_rfl) (by kernel_rfl) (by kernel_rfl) (by kernel_rfl)) ?_
  intro W base args ds gs before hval0 hW hcnd _
  have hval : ∀ (j : Nat) t v, Try.f3.params[j]? = some t → args[j]? = some v → Value.okWide Try.prog W .any base t v := hval0
  have hW' := hW
  obtain ⟨p, q, hA0, hV, rfl, hfz, hnd⟩ := hW
  have hA : DataW.TrodAll enc Try.prog W 0 (fun _ => true) true Try.f3.params.toList args.toList ds p := hA0
  rw [Try.params3] at hA hval
  obtain ⟨v0, vs0, d0, ds0, p0, q0, hargs, rfl, rfl, h0, r0⟩ := trodAll_cons hA
  obtain ⟨rfl, rfl, rfl⟩ := trodAll_nil r0
  obtain rfl : args = #[v0] := by cases args; simp_all
  obtain ⟨rfl, rfl⟩ := trodVars_none hV
  have hform := okWide_slice Try.underlying22 (hval 0 22 v0 rfl rfl)
  have k0 := h0
  have lt0 : ∀ x ∈ p0, x.block < W.heap.size := by obtain ⟨m, hm⟩ := k0; exact DataW.trod_lt m _ _ _ hm
  obtain ⟨ts, o, b, off, cap, rfl, hl, hm, hs⟩ := open_toks h0 hform
  clear hA0 hval0
  refine (walk ts o b off cap hl W hm hs).mono fun e W' ⟨he, bel⟩ => ?_
  subst he
  exact ⟨_, rfl, _, _, _, [], _, [], hW', trodAll_mk1 (shut_bool Try.underlying4 _), (trodAll_cons_mk (Below.trod laidOut (by kernel_rfl) (of_decide_eq_true (by kernel_rfl)) k0 bel lt0) trodAll_mk0), rfl, bel.frame _, fun h => by cases h⟩

theorem over : Rows.fnExactLayRow.holds Try.pinned (OpenSpec.ofChange Rows.fnExactLaySpec) :=
  OpenClaim.holds_of_wide 3 Try.f3 rfl rfl rfl rfl rfl rfl rfl ⟨rfl, rfl, rfl, rfl, rfl⟩ rfl rfl rfl rfl rfl (by kernel_rfl) Try.func3 (by kernel_rfl)
    (of_decide_eq_true (by kernel_rfl)) (by unfold Func.isWrapper; first | (rw [if_pos (by decide +kernel)]; kernel_rfl) | (rw [if_neg (by decide +kernel)]; exact ⟨rfl, rfl⟩))
    (fun os started H enc _ => lifted os started H enc)
end Go.Proofs.Ytfcgfinohhhpiai.fnExactLay
namespace Go.Proofs.Ytfcgfinohhhpiai
theorem fnExactLay_proved : Rows.FnExactLaySaid := fnExactLay.over
end Go.Proofs.Ytfcgfinohhhpiai

/- For every type, of whatever parts, the law on TyText returns true: the program's TyText answers the bytes that the model's answers, and the argument reads as it did. The package's tables of the standard library hold what its text lays (the card ties them). -/
import Derived.Test.YteoghpefilghdamDoorTXd
import Derived.Test.YteoghpefilghdamDoorTie
import Derived.Test.YteoghpefilghdamDoorCards
import Derived.LaidMore
import Derived.OpenShut
import Derived.Stop.Joined
import Derived.Stop.LaidErr
import Derived.SevenTiedAt
namespace Go.Proofs.YteoghpefilghdamDoor.fnExactTyText
open Tx
open Go.ChangeShapes Go.WideShapes Go.ChangeAt Go.RowKit
set_option linter.unusedVariables false

theorem own : ownKnob Tryd.prog.godebug = none := by kernel_rfl
theorem laidOut : laidOutB Tryd.prog = true := by kernel_rfl
def laid3 : List (String × DataW Unit) := [("math/bits.deBruijn32tab", Rows.laid_math_bits_deBruijn32tab), ("math/bits.deBruijn64tab", Rows.laid_math_bits_deBruijn64tab), ("internal/strconv.uint64pow10", Rows.laid_internal_strconv_uint64pow10)]
theorem pow_data : (Rows.laid_internal_strconv_uint64pow10 : DataW Unit) = Lib.tabData .u64 Lib.pow10Tab := by kernel_rfl

set_option maxHeartbeats 1000000 in
set_option maxRecDepth 100000 in
theorem walk {h : Nat} (x : Tr) (cs : List Value) (w : World) (hr : tyR AllK w h x cs) (hg : rg h x) (htab : TabW w) :
    Calls Tryd.prog 3 #[.agg cs.toArray] w fun e w' => e = .returned (.bool true) ∧ Below w.heap.size w w' := by
  obtain ⟨o1, c1, rfl⟩ := ty_form hr
  have HR := hide hr
  have HT := hide htab
  have HG := hide hg
  clear hr htab hg
  have HB0 : Hid (Below w.heap.size w (w.alloc (.cells #[.int .i64 x.k, .string x.s, .int .i64 x.n, .slice o1 x.l.length c1] 24))) := (Below.refl _ w).alloc (Nat.le_refl _) _
  have HX0 : Hid ((w.alloc (.cells #[.int .i64 x.k, .string x.s, .int .i64 x.n, .slice o1 x.l.length c1] 24)).heap[w.heap.size]? = some (.cells #[.int .i64 x.k, .string x.s, .int .i64 x.n, .slice o1 x.l.length c1] 24 (0, 0))) := heap_alloc_new w _
  go_enter Tryd.func3, Tryd.ntmps3
  go_wp2_with fail
  refine (szTy_all AllK h x _ _ 1048576 (by omega) (by omega) (tyR_later HB0.out h _ _ HR.out)).mono ?_
  rintro e w1 ⟨r, rfl, hr1, hr2, hb⟩
  have HW := hide hr2
  have HB1 := hide (HB0.out.trans (hb.mono HB0.out.size))
  have HX1 := hide ((hb.block w.heap.size (heap_lt HX0.out)).trans HX0.out)
  clear hr2 hb
  by_cases hr0 : r < 0
  · go_wp2
    go_ret
    exact ⟨rfl, HB1.out⟩
  have HWT : Hid (wty h x ≤ 1048576) := by
    have h2 := HW.out (by omega)
    exact (by omega : wty h x ≤ 1048576)
  have x0 := cell_of HX1.out 0
  have x1 := cell_of HX1.out 1
  have x2 := cell_of HX1.out 2
  have x3 := cell_of HX1.out 3
  simp only [List.getElem?_toArray, List.getElem?_cons_succ, List.getElem?_cons_zero] at x0 x1 x2 x3
  go_wp2_with fail
  refine (toTy_all h x _ _ (tyR_later HB1.out h _ _ HR.out) HWT.out).mono ?_
  rintro e w2 ⟨cs2, rfl, hl2, hrd2, hb, -⟩
  obtain ⟨p1, g1, rfl⟩ := ty_form hrd2
  have HRD2 := hide hrd2
  have HB2 := hide (HB1.out.trans (hb.mono HB1.out.size))
  have HX2 := hide ((hb.block w.heap.size (heap_lt HX1.out)).trans HX1.out)
  clear hl2 hrd2 hb x0 x1 x2 x3
  go_wp2_with fail
  refine (specTyTx_any HRD2.out HG.out HWT.out).mono ?_
  rintro e w3 ⟨rfl, hb⟩
  have HB3 := hide (HB2.out.trans (hb.mono HB2.out.size))
  have HX3 := hide ((hb.block w.heap.size (heap_lt HX2.out)).trans HX2.out)
  clear hb
  have x0 := cell_of HX3.out 0
  have x1 := cell_of HX3.out 1
  have x2 := cell_of HX3.out 2
  have x3 := cell_of HX3.out 3
  simp only [List.getElem?_toArray, List.getElem?_cons_succ, List.getElem?_cons_zero] at x0 x1 x2 x3
  go_wp2_with fail
  refine (toTy_all h x _ _ (tyR_later HB3.out h _ _ HR.out) HWT.out).mono ?_
  rintro e w4 ⟨cs4, rfl, hl4, hrd4, hb, -⟩
  obtain ⟨s1, t1, rfl⟩ := ty_form hrd4
  have HRD4 := hide (tyR_frame (K' := AllK) (Stays.refl _ _) (fun _ _ => trivial) h _ _ hrd4)
  have HB4 := hide (HB3.out.trans (hb.mono HB3.out.size))
  have HX4 := hide ((hb.block w.heap.size (heap_lt HX3.out)).trans HX3.out)
  clear hl4 hrd4 hb x0 x1 x2 x3
  have HA4 : Hid (Below w4.heap.size w4 (w4.alloc (.cells #[.int .i64 x.k, .string x.s, .int .i64 x.n, .slice s1 x.l.length t1] 29))) := (Below.refl _ w4).alloc (Nat.le_refl _) _
  have HY4 : Hid ((w4.alloc (.cells #[.int .i64 x.k, .string x.s, .int .i64 x.n, .slice s1 x.l.length t1] 29)).heap[w4.heap.size]? = some (.cells #[.int .i64 x.k, .string x.s, .int .i64 x.n, .slice s1 x.l.length t1] 29 (0, 0))) := heap_alloc_new w4 _
  have HRD5 := hide (tyR_later HA4.out h _ _ HRD4.out)
  have HB5 := hide (HB4.out.trans (HA4.out.mono HB4.out.size))
  have HT5 := hide (HT.out.later HB5.out)
  go_wp2_with fail
  refine (implTyTx_any HRD5.out HG.out HWT.out HT5.out).mono ?_
  rintro e w6 ⟨rfl, hb⟩
  have HB6 := hide (HB5.out.trans (hb.mono HB5.out.size))
  have HX6 := hide ((hb.block w.heap.size (Nat.lt_of_lt_of_le (heap_lt HX4.out) HA4.out.size)).trans ((HA4.out.block w.heap.size (heap_lt HX4.out)).trans HX4.out))
  have HY6 := hide ((hb.block w4.heap.size (heap_lt HY4.out)).trans HY4.out)
  have HRD6 := hide (tyR_later hb h _ _ HRD5.out)
  have HRA6 := hide (tyR_later HB6.out h _ _ HR.out)
  clear hb
  generalize tyTx h x = S
  have x0 := cell_of HX6.out 0
  have x1 := cell_of HX6.out 1
  have x2 := cell_of HX6.out 2
  have x3 := cell_of HX6.out 3
  have y0 := cell_of HY6.out 0
  have y1 := cell_of HY6.out 1
  have y2 := cell_of HY6.out 2
  have y3 := cell_of HY6.out 3
  simp only [List.getElem?_toArray, List.getElem?_cons_succ, List.getElem?_cons_zero] at x0 x1 x2 x3 y0 y1 y2 y3
  have hy6 : w4.heap.size < w6.heap.size := heap_lt HY6.out
  have hSS : (S.toList != S.toList) = false := by simp
  go_wp2_with fail
  go_region_with (first
    | (go_at_call 6; refine (toTy_all h x [.int .i64 x.k, .string x.s, .int .i64 x.n, .slice o1 x.l.length c1] _ (tyR_later (Below.refl _ _).drew h _ _ HRA6.out) HWT.out).mono ?_; rintro e w8 ⟨cs8, rfl, hl8, hrd8, hb8, -⟩; obtain ⟨d1, f1, rfl⟩ := ty_form hrd8; have HRD8 := hide (tyR_frame (K' := AllK) (Stays.refl _ _) (fun _ _ => trivial) h _ _ hrd8); have HRX8 := hide (tyR_later ((Below.refl _ _).drew.trans hb8) h _ _ HRD6.out); have HB8 := hide hb8; have z0 := (hb8.cell (p := ⟨w4.heap.size, 0, none⟩) hy6).trans y0; have z1 := (hb8.cell (p := ⟨w4.heap.size, 1, none⟩) hy6).trans y1; have z2 := (hb8.cell (p := ⟨w4.heap.size, 2, none⟩) hy6).trans y2; have z3 := (hb8.cell (p := ⟨w4.heap.size, 3, none⟩) hy6).trans y3; clear hl8 hrd8 hb8)
    | (go_at_call 8; refine (eqTy_all h x _ _ _ HRX8.out HRD8.out).mono ?_; rintro e w9 ⟨rfl, hb9⟩; have HB9 := hide hb9; clear hb9))
  all_goals
    go_wp2
    go_ret
    exact ⟨rfl, HB6.out.trans ((((Below.refl _ _).drew.trans HB8.out).trans (HB9.out.mono (((Below.refl _ _).drew.trans HB8.out).size))).mono HB6.out.size)⟩

theorem of_laid {W : World} (h : laidMetH Tryd.prog laid3 W) : TabW W := by
  rw [MakeChecks.laidMetH_plain _ _ _ (by kernel_rfl)] at h
  have h2 : laidMet Tryd.prog [("internal/strconv.uint64pow10", Lib.tabData .u64 Lib.pow10Tab)] W := by
    rw [← pow_data]
    exact h.tail.tail
  exact Lib.tabIs_of_head (g := 0) (t := 66) (e := 59) (n := 20) (by kernel_rfl) (by kernel_rfl) Tryd.underlying66 Tryd.underlying59 (by kernel_rfl) (by kernel_rfl) h2
theorem door_met (os : Os) (args : Array Value) : laidMetH Tryd.prog laid3 ((World.doorLaid Tryd.prog 24 os).forCall (fun _ _ => 0) ⟨#[], args, []⟩).memory :=
  laidMetH_of_parts3 (fuel := 8) (laidMet_of_run' 8 (by kernel_rfl) (by kernel_rfl)) (by kernel_rfl) (by kernel_rfl)

set_option maxRecDepth 100000 in
theorem lifted (os : Os) (started : os.Started) (H : Type) (enc : TypeId × Value → H) :
    ReturnsInHanded {} Tryd.checked os 3 .any (fun w args => (Rows.fnExactTyTextSpec.pre enc Tryd.prog Tryd.f3 [] false w args ∧ laidMetH Tryd.prog laid3 w) ∧ sizedMet enc Tryd.prog Tryd.f3 (OpenSpec.ofChange Rows.fnExactTyTextSpec) false w args)
      (Rows.fnExactTyTextSpec.post enc Tryd.prog Tryd.f3 false true false false) := by
  refine returnsInHanded_of_change_and (C := Tryd.checked) (X := fun w _ => laidMetH Tryd.prog laid3 w) (fun _ _ _ hh h => h.of_heap hh) own started (by kernel_rfl) Tryd.func3
    (ChangeSpec.witness_shaped (enc := enc) (C := Tryd.checked) (os := os) (X := fun w _ => laidMetH Tryd.prog laid3 w) false (World.doorLaid Tryd.prog 24 os) #[.agg #[.int .i64 0, .string ⟨#[]⟩, .int .i64 0, .slice none 0 0]] 8 rfl (World.shaped_of_RefB (by kernel_rfl) (by kernel_rfl)) (by kernel_rfl) (by kernel_rfl) (by kernel_rfl) (door_met os _)) ?_
  intro W base args ds gs before hval0 hW _ _ hL _
  have hW' := hW
  obtain ⟨p, q, hA0, hV, rfl, hfz, hnd⟩ := hW
  have hA : DataW.TrodAll enc Tryd.prog W 0 (fun _ => true) true Tryd.f3.params.toList args.toList ds p := hA0
  rw [Tryd.params3] at hA
  obtain ⟨v0, vs0, d0, ds0, p0, q0, hargs, rfl, rfl, h0, r0⟩ := trodAll_cons hA
  obtain ⟨rfl, rfl, rfl⟩ := trodAll_nil r0
  obtain rfl : args = #[v0] := by cases args; simp_all
  obtain ⟨rfl, rfl⟩ := trodVars_none hV
  have k0 := h0
  have lt0 : ∀ x ∈ p0, x.block < W.heap.size := by obtain ⟨m, hm⟩ := k0; exact DataW.trod_lt m _ _ _ hm
  have hval : ∀ (j : Nat) t v, Tryd.f3.params[j]? = some t → #[v0][j]? = some v → Value.okWide Tryd.prog W .any base t v := hval0
  rw [Tryd.params3] at hval
  obtain ⟨cs, rfl, -⟩ := okWide_struct Tryd.underlying24 (hval 0 24 v0 rfl rfl)
  obtain ⟨fuel, hf⟩ := h0
  have hf2 : DataW.trod enc Tryd.prog W 0 (fun _ => true) true fuel 24 cs.toList = some (d0, p0) := by simpa [Value.cells] using hf
  obtain ⟨x, hx, hrg⟩ := open_tyN fuel fuel (Nat.le_refl _) _ _ hf2
  have hwalk := walk x cs.toList W hx hrg (of_laid hL)
  rw [Array.toArray_toList] at hwalk
  clear hA0 hval0
  refine hwalk.mono fun e W' ⟨he, bel⟩ => ?_
  subst he
  exact ⟨_, rfl, _, _, _, [], _, [], hW', trodAll_mk1 (shut_bool Tryd.underlying4 _), (trodAll_cons_mk (Below.trod laidOut (by kernel_rfl) (of_decide_eq_true (by kernel_rfl)) k0 bel lt0) trodAll_mk0), rfl, bel.frame _, fun h => by cases h⟩

theorem over : Rows.fnExactTyTextRow.holds Tryd.pinned (OpenSpec.ofChange Rows.fnExactTyTextSpec) :=
  OpenClaim.holds_of_wide 3 Tryd.f3 rfl rfl rfl rfl rfl rfl rfl ⟨rfl, rfl, rfl, rfl, rfl⟩ rfl rfl rfl rfl rfl (by kernel_rfl) Tryd.func3 (by kernel_rfl)
    (of_decide_eq_true (by kernel_rfl)) (by unfold Func.isWrapper; first | (rw [if_pos (by decide +kernel)]; kernel_rfl) | (rw [if_neg (by decide +kernel)]; exact ⟨rfl, rfl⟩))
    (fun os started H enc _ => lifted os started H enc)
theorem card : Rows.FnExactTyTextCardSaid :=
  Claim7.holds_tied_plain_at .later [] [.data, .data, .data] true Rows.fnExactTyTextCard.stood.harness Rows.fnExactTyTextCard.stood.looks
    over (fun _ h => by cases h) (by kernel_rfl) (fun _ h => by cases h) fnExactTyText_row_tie rfl ⟨rfl, rfl⟩ (by kernel_rfl) rfl
    (fun f fn hf hfn => by
      obtain rfl : f = 3 := Option.some.inj ((show Tryd.prog.funcNamed "loop.example/g00471/laws.FnExactTyText" = some 3 by kernel_rfl).symm.trans hf) |>.symm
      obtain rfl : fn = Tryd.f3 := (Option.some.inj (Tryd.func3.symm.trans hfn)).symm
      exact ⟨by kernel_rfl, fun j t ht => by
        rw [Tryd.params3] at ht
        have hm : t ∈ [24] := by simpa using Array.mem_of_getElem? ht
        have hall : ([24].all fun u => !Tryd.prog.wantsStandIn u) = true := by kernel_rfl
        exact (show Tryd.prog.wantsStandIn t = false by simpa using List.all_eq_true.1 hall t hm)⟩)
    (by kernel_rfl)
end Go.Proofs.YteoghpefilghdamDoor.fnExactTyText
namespace Go.Proofs.YteoghpefilghdamDoor
theorem fnExactTyText_proved : Rows.FnExactTyTextCardSaid := fnExactTyText.card
end Go.Proofs.YteoghpefilghdamDoor

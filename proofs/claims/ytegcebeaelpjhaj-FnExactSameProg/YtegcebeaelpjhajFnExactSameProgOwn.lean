/- For every two programs, of whatever parts, the law on SameProg returns true: the program's SameProg answers as the model's, and the arguments read as they did. No condition. -/
import Derived.Test.YtegcebeaelpjhajWC
namespace Go.Proofs.Ytegcebeaelpjhaj.fnExactSameProg
open Go.ChangeShapes Go.WideShapes Go.ChangeAt Go.RowKit
set_option linter.unusedVariables false

theorem own : ownKnob Try.prog.godebug = none := by kernel_rfl
theorem laidOut : laidOutB Try.prog = true := by kernel_rfl
theorem row_up {K : Nat → Prop} {w : World} {R R' : Tr → List Value → Prop} {sz : Nat} {o : Option Addr} {xs : List Tr} (hm : RowOf K w R sz o xs) (hR : ∀ x cs, R x cs → R' x cs) : RowOf K w R' sz o xs := by
  intro hne
  obtain ⟨b, off, e, hk, hl, hc⟩ := hm hne
  refine ⟨b, off, e, hk, hl, fun i x hx => ?_⟩
  obtain ⟨cs, h1, h2, h3⟩ := hc i x hx
  exact ⟨cs, h1, h2, hR x cs h3⟩
theorem nlR_up {K : Nat → Prop} {w : World} {R R' : Tr → List Value → Prop} {n : Nat} (hR : ∀ x cs, R x cs → R' x cs) : ∀ x cs, nlR K w R n x cs → nlR K w R' n x cs := by
  rintro x cs ⟨e1, e2, e3, e4, e5, o, c, e, hs, hf, hr⟩
  exact ⟨e1, e2, e3, e4, e5, o, c, e, hs, hf, row_up hr hR⟩
theorem prR_le {K : Nat → Prop} {w : World} {h h' : Nat} (hl : h ≤ h') : ∀ x cs, prR K w h x cs → prR K w h' x cs := by
  rintro x cs ⟨e1, e2, e3, e4, e5, o1, c1, o2, c2, e, f1, f2, r1, r2⟩
  exact ⟨e1, e2, e3, e4, e5, o1, c1, o2, c2, e, f1, f2, row_up r1 (nlR_up (nlR_up (tyR_le hl))), row_up r2 (reads_le hl).2.1⟩

set_option maxRecDepth 100000 in
theorem lifted (os : Os) (started : os.Started) (H : Type) (enc : TypeId × Value → H) :
    ReturnsInHanded {} Try.checked os 3 .any (Rows.fnExactSameProgSpec.pre6 enc Try.prog Try.f3 Rows.fnExactSameProgRow.domain false) (Rows.fnExactSameProgSpec.post enc Try.prog Try.f3 false true false false) := by
  refine returnsInHanded_of_change (C := Try.checked) own started (by kernel_rfl) Try.func3
    (ChangeSpec.witness6 (enc := enc) (C := Try.checked) false ⟨#[], #[.agg #[.slice none 0 0, .slice none 0 0], .agg #[.slice none 0 0, .slice none 0 0]], []⟩ 8 (by kernel_rfl) (by kernel_rfl) (by kernel_rfl) (by kernel_rfl)) ?_
  intro W base args ds gs before hval0 hW hcnd _
  have hW' := hW
  obtain ⟨p, q, hA0, hV, rfl, hfz, hnd⟩ := hW
  have hA : DataW.TrodAll enc Try.prog W 0 (fun _ => true) true Try.f3.params.toList args.toList ds p := hA0
  rw [Try.params3] at hA
  obtain ⟨v0, vs0, d0, ds0, p0, q0, hargs, rfl, rfl, h0, r0⟩ := trodAll_cons hA
  obtain ⟨v1, vs1, d1, ds1, p1, q1, hargs1, rfl, rfl, h1, r1⟩ := trodAll_cons r0
  obtain ⟨rfl, rfl, rfl⟩ := trodAll_nil r1
  obtain rfl : args = #[v0, v1] := by cases args; simp_all
  obtain ⟨rfl, rfl⟩ := trodVars_none hV
  have k0 := h0
  have k1 := h1
  have lt0 : ∀ x ∈ p0, x.block < W.heap.size := by obtain ⟨m, hm⟩ := k0; exact DataW.trod_lt m _ _ _ hm
  have lt1 : ∀ x ∈ p1, x.block < W.heap.size := by obtain ⟨m, hm⟩ := k1; exact DataW.trod_lt m _ _ _ hm
  have hval : ∀ (j : Nat) t v, Try.f3.params[j]? = some t → #[v0, v1][j]? = some v → Value.okWide Try.prog W .any base t v := hval0
  rw [Try.params3] at hval
  obtain ⟨cs, rfl, -⟩ := okWide_struct Try.underlying25 (hval 0 25 v0 rfl rfl)
  obtain ⟨es, rfl, -⟩ := okWide_struct Try.underlying25 (hval 1 25 v1 rfl rfl)
  obtain ⟨f0, hf0⟩ := h0
  obtain ⟨f1, hf1⟩ := h1
  have hg0 : DataW.trod enc Try.prog W 0 (fun _ => true) true f0 25 cs.toList = some (d0, p0) := by simpa [Value.cells] using hf0
  have hg1 : DataW.trod enc Try.prog W 0 (fun _ => true) true f1 25 es.toList = some (d1, p1) := by simpa [Value.cells] using hf1
  obtain ⟨x, hx⟩ := open_pr f0 f0 (Nat.le_refl _) _ _ hg0
  obtain ⟨y, hy⟩ := open_pr f1 f1 (Nat.le_refl _) _ _ hg1
  have hx2 := prR_le (h' := max f0 f1) (Nat.le_max_left _ _) _ _ hx
  have hy2 := prR_le (h' := max f0 f1) (Nat.le_max_right _ _) _ _ hy
  have hlx : cs.toList.length = 2 := by obtain ⟨o1, c1, o2, c2, e⟩ := pr_form hx; rw [e]; rfl
  have hly : es.toList.length = 2 := by obtain ⟨o1, c1, o2, c2, e⟩ := pr_form hy; rw [e]; rfl
  obtain ⟨a0, a1, ea⟩ := two_of hlx
  obtain ⟨b0, b1, eb⟩ := two_of hly
  rw [ea] at hx2
  rw [eb] at hy2
  have hwalk := walk x y a0 a1 b0 b1 W hx2 hy2
  have ea2 : (#[a0, a1] : Array Value) = cs := by rw [← Array.toArray_toList (xs := cs), ea]
  have eb2 : (#[b0, b1] : Array Value) = es := by rw [← Array.toArray_toList (xs := es), eb]
  rw [ea2, eb2] at hwalk
  clear hA0 hval0
  refine hwalk.mono fun e W' ⟨he, bel⟩ => ?_
  subst he
  exact ⟨_, rfl, _, _, _, [], _, [], hW', trodAll_mk1 (shut_bool Try.underlying4 _), (trodAll_cons_mk (Below.trod laidOut (by kernel_rfl) (of_decide_eq_true (by kernel_rfl)) k0 bel lt0) (trodAll_cons_mk (Below.trod laidOut (by kernel_rfl) (of_decide_eq_true (by kernel_rfl)) k1 bel lt1) trodAll_mk0)), rfl, bel.frame _, fun h => by cases h⟩

theorem over : Rows.fnExactSameProgRow.holds Try.pinned (OpenSpec.ofChange Rows.fnExactSameProgSpec) :=
  OpenClaim.holds_of_wide 3 Try.f3 rfl rfl rfl rfl rfl rfl rfl ⟨rfl, rfl, rfl, rfl, rfl⟩ rfl rfl rfl rfl rfl (by kernel_rfl) Try.func3 (by kernel_rfl)
    (of_decide_eq_true (by kernel_rfl)) (by unfold Func.isWrapper; first | (rw [if_pos (by decide +kernel)]; kernel_rfl) | (rw [if_neg (by decide +kernel)]; exact ⟨rfl, rfl⟩))
    (fun os started H enc _ => lifted os started H enc)
end Go.Proofs.Ytegcebeaelpjhaj.fnExactSameProg
namespace Go.Proofs.Ytegcebeaelpjhaj
theorem fnExactSameProg_proved : Rows.FnExactSameProgSaid := fnExactSameProg.over
end Go.Proofs.Ytegcebeaelpjhaj

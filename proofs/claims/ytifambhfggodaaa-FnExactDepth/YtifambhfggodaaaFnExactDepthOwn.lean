/- For every result, of whatever parts, the law on Depth returns true: the program's Depth answers as the model's, and the argument reads as it did. No condition. -/
import Derived.Test.YtifambhfggodaaaZRF
import Derived.Test.YtifambhfggodaaaZVJ
namespace Go.Proofs.Ytifambhfggodaaa.fnExactDepth
open Go.ChangeShapes Go.WideShapes Go.ChangeAt Go.RowKit Go.Proofs.Ytifambhfggodaaa Go.Proofs.Ytifambhfggodaaa.Rs
set_option linter.unusedVariables false

theorem own : ownKnob Try.prog.godebug = none := by kernel_rfl
theorem laidOut : laidOutB Try.prog = true := by kernel_rfl
set_option maxRecDepth 100000 in
theorem lifted (os : Os) (started : os.Started) (H : Type) (enc : TypeId × Value → H) :
    ReturnsInHanded {} Try.checked os 3 .any (Rows.fnExactDepthSpec.pre6 enc Try.prog Try.f3 Rows.fnExactDepthRow.domain false) (Rows.fnExactDepthSpec.post enc Try.prog Try.f3 false true false false) := by
  refine returnsInHanded_of_change (C := Try.checked) own started (by kernel_rfl) Try.func3
    (ChangeSpec.witness6 (enc := enc) (C := Try.checked) false ⟨#[], #[.agg #[.int .i64 0, .string ⟨#[]⟩, .int .i64 0, .slice none 0 0]], []⟩ 8 (by kernel_rfl) (by kernel_rfl) (by kernel_rfl) (by kernel_rfl)) ?_
  intro W base args ds gs before hval0 hW hcnd _
  have hW' := hW
  obtain ⟨p, q, hA0, hV, rfl, hfz, hnd⟩ := hW
  have hA : DataW.TrodAll enc Try.prog W 0 (fun _ => true) true Try.f3.params.toList args.toList ds p := hA0
  rw [Try.params3] at hA
  obtain ⟨v0, vs0, d0, ds0, p0, q0, hargs, rfl, rfl, h0, r0⟩ := trodAll_cons hA
  obtain ⟨rfl, rfl, rfl⟩ := trodAll_nil r0
  obtain rfl : args = #[v0] := by cases args; simp_all
  obtain ⟨rfl, rfl⟩ := trodVars_none hV
  have k0 := h0
  have lt0 : ∀ x ∈ p0, x.block < W.heap.size := by obtain ⟨m, hm⟩ := k0; exact DataW.trod_lt m _ _ _ hm
  have hval : ∀ (j : Nat) t v, Try.f3.params[j]? = some t → #[v0][j]? = some v → Value.okWide Try.prog W .any base t v := hval0
  rw [Try.params3] at hval
  obtain ⟨cs, rfl, -⟩ := okWide_struct Try.underlying24 (hval 0 24 v0 rfl rfl)
  obtain ⟨f0, hf0⟩ := h0
  have hg0 : DataW.trod enc Try.prog W 0 (fun _ => true) true f0 24 cs.toList = some (d0, p0) := by simpa [Value.cells] using hf0
  obtain ⟨x, hx⟩ := open_ty f0 f0 (Nat.le_refl _) _ _ hg0
  have hlx : cs.toList.length = 4 := by obtain ⟨o1, c1, e⟩ := ty_form hx; rw [e]; rfl
  obtain ⟨a0, a1, a2, a3, ea⟩ := four_of hlx
  rw [ea] at hx
  have hwalk := Rs.walk_FnExactDepth x (dep f0 x : Int) [a0, a1, a2, a3] W hx (fun hw cs w hr => depth_all f0 AllK x cs w hr hw) (fun hw K cs w hr hK => by
    obtain ⟨o1, c1, rfl⟩ := ty_form hr
    exact implDepth_any x o1 c1 w hr hK hw)
  have ea2 : (#[a0, a1, a2, a3] : Array Value) = cs := by rw [← Array.toArray_toList (xs := cs), ea]
  rw [show ([a0, a1, a2, a3] : List Value).toArray = cs from ea2] at hwalk
  clear hA0 hval0
  refine hwalk.mono fun e W' ⟨he, bel⟩ => ?_
  subst he
  exact ⟨_, rfl, _, _, _, [], _, [], hW', trodAll_mk1 (shut_bool Try.underlying4 _), (trodAll_cons_mk (Below.trod laidOut (by kernel_rfl) (of_decide_eq_true (by kernel_rfl)) k0 bel lt0) trodAll_mk0), rfl, bel.frame _, fun h => by cases h⟩

theorem over : Rows.fnExactDepthRow.holds Try.pinned (OpenSpec.ofChange Rows.fnExactDepthSpec) :=
  OpenClaim.holds_of_wide 3 Try.f3 rfl rfl rfl rfl rfl rfl rfl ⟨rfl, rfl, rfl, rfl, rfl⟩ rfl rfl rfl rfl rfl (by kernel_rfl) Try.func3 (by kernel_rfl)
    (of_decide_eq_true (by kernel_rfl)) (by unfold Func.isWrapper; first | (rw [if_pos (by decide +kernel)]; kernel_rfl) | (rw [if_neg (by decide +kernel)]; exact ⟨rfl, rfl⟩))
    (fun os started H enc _ => lifted os started H enc)
end Go.Proofs.Ytifambhfggodaaa.fnExactDepth
namespace Go.Proofs.Ytifambhfggodaaa
theorem fnExactDepth_proved : Rows.FnExactDepthSaid := fnExactDepth.over
end Go.Proofs.Ytifambhfggodaaa

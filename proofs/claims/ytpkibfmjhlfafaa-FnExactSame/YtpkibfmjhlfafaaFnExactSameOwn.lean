/- For every two results, of whatever parts, the law on Same returns true: the program's Same answers as the model's, and the arguments read as they did. No condition. -/
import Derived.Test.YtpkibfmjhlfafaaZRH
import Derived.Test.YtpkibfmjhlfafaaZSC
namespace Go.Proofs.Ytpkibfmjhlfafaa.fnExactSame
open Go.ChangeShapes Go.WideShapes Go.ChangeAt Go.RowKit
set_option linter.unusedVariables false

theorem own : ownKnob Try.prog.godebug = none := by kernel_rfl
theorem laidOut : laidOutB Try.prog = true := by kernel_rfl
set_option maxRecDepth 100000 in
theorem lifted (os : Os) (started : os.Started) (H : Type) (enc : TypeId × Value → H) :
    ReturnsInHanded {} Try.checked os 3 .any (Rows.fnExactSameSpec.pre6 enc Try.prog Try.f3 Rows.fnExactSameRow.domain false) (Rows.fnExactSameSpec.post enc Try.prog Try.f3 false true false false) := by
  refine returnsInHanded_of_change (C := Try.checked) own started (by kernel_rfl) Try.func3
    (ChangeSpec.witness6 (enc := enc) (C := Try.checked) false ⟨#[], #[.agg #[.int .i64 0, .string ⟨#[]⟩, .int .i64 0, .slice none 0 0], .agg #[.int .i64 0, .string ⟨#[]⟩, .int .i64 0, .slice none 0 0]], []⟩ 8 (by kernel_rfl) (by kernel_rfl) (by kernel_rfl) (by kernel_rfl)) ?_
  intro W base args ds gs before hval0 hW hcnd _
  have hW' := hW
  obtain ⟨p, q, hA0, hV, rfl, hfz, hnd⟩ := hW
  have hA : DataW.TrodAll enc Try.prog W 0 (fun _ => true) true Try.f3.params.toList args.toList ds p := hA0
  rw [Try.params3] at hA
  obtain ⟨v0, vs0, d0, ds0, p0, q0, hargs, rfl, rfl, h0, r0⟩ := trodAll_cons hA
  obtain ⟨v1, vs1, d1, ds1, p1, q1, hargs1, rfl, rfl, h1, r1⟩ := trodAll_cons r0
  obtain ⟨rfl, rfl, rfl⟩ := trodAll_nil r1
  obtain rfl : args = #[v0, v1] := by cases args; simp_all
  obtain ⟨rfl, rfl⟩ := trodVars_none hV
  have k0 := h0
  have k1 := h1
  have lt0 : ∀ x ∈ p0, x.block < W.heap.size := by obtain ⟨m, hm⟩ := k0; exact DataW.trod_lt m _ _ _ hm
  have lt1 : ∀ x ∈ p1, x.block < W.heap.size := by obtain ⟨m, hm⟩ := k1; exact DataW.trod_lt m _ _ _ hm
  have hval : ∀ (j : Nat) t v, Try.f3.params[j]? = some t → #[v0, v1][j]? = some v → Value.okWide Try.prog W .any base t v := hval0
  rw [Try.params3] at hval
  obtain ⟨cs, rfl, -⟩ := okWide_struct Try.underlying24 (hval 0 24 v0 rfl rfl)
  obtain ⟨es, rfl, -⟩ := okWide_struct Try.underlying24 (hval 1 24 v1 rfl rfl)
  obtain ⟨f0, hf0⟩ := h0
  obtain ⟨f1, hf1⟩ := h1
  have hg0 : DataW.trod enc Try.prog W 0 (fun _ => true) true f0 24 cs.toList = some (d0, p0) := by simpa [Value.cells] using hf0
  have hg1 : DataW.trod enc Try.prog W 0 (fun _ => true) true f1 24 es.toList = some (d1, p1) := by simpa [Value.cells] using hf1
  obtain ⟨x, hx⟩ := open_ty f0 f0 (Nat.le_refl _) _ _ hg0
  obtain ⟨y, hy⟩ := open_ty f1 f1 (Nat.le_refl _) _ _ hg1
  have hx2 := Sr.tyR_le (h' := max f0 f1) (Nat.le_max_left _ _) _ _ hx
  have hy2 := Sr.tyR_le (h' := max f0 f1) (Nat.le_max_right _ _) _ _ hy
  have hlx : cs.toList.length = 4 := by obtain ⟨o1, c1, e⟩ := ty_form hx; rw [e]; rfl
  have hly : es.toList.length = 4 := by obtain ⟨o1, c1, e⟩ := ty_form hy; rw [e]; rfl
  obtain ⟨a0, a1, a2, a3, ea⟩ := four_of hlx
  obtain ⟨b0, b1, b2, b3, eb⟩ := four_of hly
  rw [ea] at hx2
  rw [eb] at hy2
  have hwalk := walk x y a0 a1 a2 a3 b0 b1 b2 b3 W hx2 hy2 (fun w B ca cb hB hpl ra rb hw1 _ => Sr.implSame_any hB hpl ra rb (by have h1 := Sr.ndr_wty (max f0 f1) x; omega))
  have ea2 : (#[a0, a1, a2, a3] : Array Value) = cs := by rw [← Array.toArray_toList (xs := cs), ea]
  have eb2 : (#[b0, b1, b2, b3] : Array Value) = es := by rw [← Array.toArray_toList (xs := es), eb]
  rw [ea2, eb2] at hwalk
  clear hA0 hval0
  refine hwalk.mono fun e W' ⟨he, bel⟩ => ?_
  subst he
  exact ⟨_, rfl, _, _, _, [], _, [], hW', trodAll_mk1 (shut_bool Try.underlying4 _), (trodAll_cons_mk (Below.trod laidOut (by kernel_rfl) (of_decide_eq_true (by kernel_rfl)) k0 bel lt0) (trodAll_cons_mk (Below.trod laidOut (by kernel_rfl) (of_decide_eq_true (by kernel_rfl)) k1 bel lt1) trodAll_mk0)), rfl, bel.frame _, fun h => by cases h⟩

theorem over : Rows.fnExactSameRow.holds Try.pinned (OpenSpec.ofChange Rows.fnExactSameSpec) :=
  OpenClaim.holds_of_wide 3 Try.f3 rfl rfl rfl rfl rfl rfl rfl ⟨rfl, rfl, rfl, rfl, rfl⟩ rfl rfl rfl rfl rfl (by kernel_rfl) Try.func3 (by kernel_rfl)
    (of_decide_eq_true (by kernel_rfl)) (by unfold Func.isWrapper; first | (rw [if_pos (by decide +kernel)]; kernel_rfl) | (rw [if_neg (by decide +kernel)]; exact ⟨rfl, rfl⟩))
    (fun os started H enc _ => lifted os started H enc)
end Go.Proofs.Ytpkibfmjhlfafaa.fnExactSame
namespace Go.Proofs.Ytpkibfmjhlfafaa
theorem fnExactSame_proved : Rows.FnExactSameSaid := fnExactSame.over
end Go.Proofs.Ytpkibfmjhlfafaa

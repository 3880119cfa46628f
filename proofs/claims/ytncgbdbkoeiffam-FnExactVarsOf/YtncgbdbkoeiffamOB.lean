/- The program's isFirst, of places and of numbers. -/
import Derived.Test.YtncgbdbkoeiffamOA
import Derived.Test.YtncgbdbkoeiffamXA
namespace Go.Proofs.Ytncgbdbkoeiffam.Vo
open Go.ChangeShapes Go.WideShapes Go.ChangeAt Go.RowKit
open Go.ChangeMaps (setBlock heap_setBlock_same heap_setBlock_other)

theorem zero_unit (w : World) : (zeroValue 70).run Try.prog w = .ok (.agg #[]) w := by kernel_rfl
theorem ptr_ty : PtrTy Try.prog 53 := by
  obtain ⟨j, h1, h2⟩ : ∃ j, Try.prog.info? 29 = some j ∧ j.size ≠ 0 := by
    have h : (Try.prog.info? 29).map (fun i => i.size) = some 4 := by kernel_rfl
    cases hi : Try.prog.info? 29 with
    | none => rw [hi] at h; cases h
    | some j =>
      rw [hi] at h
      refine ⟨j, rfl, ?_⟩
      have h3 : j.size = 4 := by simpa using h
      omega
  exact ⟨_, j, Try.underlying53, h1, h2⟩
theorem plain_later {n : Nat} {w w' : World} {a : Addr} (h : PlainAt w a) (hb : Below n w w') (hn : w.heap.size ≤ n) : PlainAt w' a := by
  obtain ⟨c, e, h1⟩ := h
  exact ⟨c, e, (hb.block _ (Nat.lt_of_lt_of_le (Array.getElem?_eq_some_iff.1 h1).1 hn)).trans h1⟩
/-- All is kept but block m. -/
def Oth (m : Nat) (w w' : World) : Prop := Keeps (fun k => k < w.heap.size ∧ k ≠ m) w w'
theorem oth_of {w W W' : World} {m : Nat} {o : Obj} {es : Array MapEntry} {c : Nat} (hB : Below w.heap.size w W) (hb : W.heap[m]? = some (.map es c)) (e : W' = setBlock W m o) : Oth m w W' := by
  subst e
  refine ⟨hB.os, hB.tape, hB.output, by simpa [setBlock] using hB.size, fun k hk => ?_⟩
  rw [heap_setBlock_other hb o hk.2]
  exact hB.block k hk.1
set_option maxHeartbeats 1000000 in
set_option maxRecDepth 100000 in
theorem isFirst_ptr (m : Nat) (a : Addr) (ks : List Addr) (w : World) (hs : SetAt w m ptrV ks) (pa : PlainAt w a) (hp : ∀ b ∈ ks, PlainAt w b) :
    Calls Try.prog 26 #[.map (some m), .pointer (some a)] w fun e w' => e = .returned (.bool (!decide (a ∈ ks))) ∧ SetAt w' m ptrV (addK ks a) ∧ Oth m w w' := by
  have hlt := hs.lt
  obtain ⟨es, c, hm, hi⟩ := hs
  have HB2 : Hid (Below w.heap.size w (w.alloc (.cells #[] 70))) := (Below.refl _ w).alloc (Nat.le_refl _) _
  have HB1 : Hid (Below w.heap.size w w) := Below.refl _ w
  have hl1 := look_set Try.underlying52 zero_unit (fun b => check_ptr ptr_ty b w a) ((HB1.out.block m hlt).trans hm) (finds_ptr ptr_ty (plain_later pa HB1.out (Nat.le_refl _)) hi fun b hb => plain_later (hp b hb) HB1.out (Nat.le_refl _))
  have hl2 := look_set Try.underlying52 zero_unit (fun b => check_ptr ptr_ty b (w.alloc (.cells #[] 70)) a) ((HB2.out.block m hlt).trans hm) (finds_ptr ptr_ty (plain_later pa HB2.out (Nat.le_refl _)) hi fun b hb => plain_later (hp b hb) HB2.out (Nat.le_refl _))
  obtain ⟨es', c', hu, hi'⟩ := put_set Try.underlying52 (fun b => check_ptr ptr_ty b (w.alloc (.cells #[] 70)) a) (by simp [Instr.keyThatStays, ptrV, Instr.sameBits]) ((HB2.out.block m hlt).trans hm) hi (finds_ptr ptr_ty (plain_later pa HB2.out (Nat.le_refl _)) hi fun b hb => plain_later (hp b hb) HB2.out (Nat.le_refl _))
  have HI := hide hi'
  have HM2 := hide ((HB2.out.block m hlt).trans hm)
  unfold ptrV at hl1 hl2 hu
  generalize decide (a ∈ ks) = q at hl1 hl2 ⊢
  clear hi hi' hp pa
  go_enter Try.func26, Try.ntmps26
  go_wp2
  all_goals
    go_wp2
    go_ret
    exact ⟨rfl, ⟨_, _, heap_setBlock_same HM2.out _, HI.out⟩, oth_of HB2.out HM2.out rfl⟩
theorem check_int_n (b : Bool) (w : World) (a : Int) (n : Nat) : (Instr.checkKey b (n + 1) 3 (intV a)).run Try.prog w = .ok () w := by
  simp [Instr.checkKey, intV, run_underlying Try.underlying3]
theorem check_int (b : Bool) (w : World) (a : Int) : (Instr.checkKey b 10000 3 (intV a)).run Try.prog w = .ok () w := check_int_n b w a 9999
set_option maxHeartbeats 1000000 in
set_option maxRecDepth 100000 in
theorem isFirst_int (m : Nat) (a : Int) (ks : List Int) (w : World) (hs : SetAt w m intV ks) :
    Calls Try.prog 27 #[.map (some m), .int .i64 a] w fun e w' => e = .returned (.bool (!decide (a ∈ ks))) ∧ SetAt w' m intV (addK ks a) ∧ Oth m w w' := by
  have hlt := hs.lt
  obtain ⟨es, c, hm, hi⟩ := hs
  have HB2 : Hid (Below w.heap.size w (w.alloc (.cells #[] 70))) := (Below.refl _ w).alloc (Nat.le_refl _) _
  have HB1 : Hid (Below w.heap.size w w) := Below.refl _ w
  have hl1 := look_set Try.underlying51 zero_unit (fun b => check_int b w a) ((HB1.out.block m hlt).trans hm) (finds_n Try.underlying3 hi)
  have hl2 := look_set Try.underlying51 zero_unit (fun b => check_int b (w.alloc (.cells #[] 70)) a) ((HB2.out.block m hlt).trans hm) (finds_n Try.underlying3 hi)
  obtain ⟨es', c', hu, hi'⟩ := put_set Try.underlying51 (fun b => check_int b (w.alloc (.cells #[] 70)) a) (by simp [Instr.keyThatStays, intV, Instr.sameBits]) ((HB2.out.block m hlt).trans hm) hi (finds_n Try.underlying3 hi)
  have HI := hide hi'
  have HM2 := hide ((HB2.out.block m hlt).trans hm)
  unfold intV at hl1 hl2 hu
  generalize decide (a ∈ ks) = q at hl1 hl2 ⊢
  clear hi hi'
  go_enter Try.func27, Try.ntmps27
  go_wp2
  all_goals
    go_wp2
    go_ret
    exact ⟨rfl, ⟨_, _, heap_setBlock_same HM2.out _, HI.out⟩, oth_of HB2.out HM2.out rfl⟩
end Go.Proofs.Ytncgbdbkoeiffam.Vo

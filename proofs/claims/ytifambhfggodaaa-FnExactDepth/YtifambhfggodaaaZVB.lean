/- Where a list of results is: what place answers; a map in which places stand; the program's isFirst of places (made by genZVB.py out of CY and CX). -/
import Derived.Test.YtifambhfggodaaaOA
import Derived.Test.YtifambhfggodaaaZVA
namespace Go.Proofs.Ytifambhfggodaaa.Rs
open Go.ChangeShapes Go.WideShapes Go.ChangeAt Go.RowKit Go.Proofs.Ytifambhfggodaaa.Vo
open Go.ChangeMaps (setBlock heap_setBlock_same heap_setBlock_other)
set_option linter.unusedVariables false

theorem zero_unit (w : World) : (zeroValue 53).run Try.prog w = .ok (.agg #[]) w := by kernel_rfl
theorem plain_later {n : Nat} {w w' : World} {a : Addr} (h : PlainAt w a) (hb : Below n w w') (hn : w.heap.size ≤ n) : PlainAt w' a := by
  obtain ⟨c, e, h1⟩ := h
  exact ⟨c, e, (hb.block _ (Nat.lt_of_lt_of_le (Array.getElem?_eq_some_iff.1 h1).1 hn)).trans h1⟩
/-- All is kept but block m. -/
def Oth (m : Nat) (w w' : World) : Prop := Keeps (fun k => k < w.heap.size ∧ k ≠ m) w w'
theorem oth_of {w W W' : World} {m : Nat} {o : Obj} {es : Array MapEntry} {c : Nat} (hB : Below w.heap.size w W) (hb : W.heap[m]? = some (.map es c)) (e : W' = setBlock W m o) : Oth m w W' := by
  subst e
  refine ⟨hB.os, hB.tape, hB.output, by simpa [setBlock] using hB.size, fun k hk => ?_⟩
  rw [heap_setBlock_other hb o hk.2]
  exact hB.block k hk.1

def ptrT : TypeId := 55
def kvP (k : Pk) : Value := .agg #[.iface ptrT (.pointer (some k.1)), .int .i64 (k.2 : Int)]
/-- A pointer's type: what it points to is not of size 0; it can be compared. -/
def PtrC (P : Program) (tp : TypeId) : Prop := ∃ te j jp, P.underlying tp = some (.pointer te) ∧ P.info? te = some j ∧ j.size ≠ 0 ∧ P.info? tp = some jp ∧ jp.comparable = true
theorem ptr_c {tp te : TypeId} {n : Nat} (hu : Try.prog.underlying tp = some (.pointer te)) (h1 : (Try.prog.info? te).map (fun i => i.size) = some (n + 1)) (h2 : (Try.prog.info? tp).map (fun i => i.comparable) = some true) : PtrC Try.prog tp := by
  cases hi : Try.prog.info? te with
  | none => rw [hi] at h1; cases h1
  | some j =>
    rw [hi] at h1
    cases hp : Try.prog.info? tp with
    | none => rw [hp] at h2; cases h2
    | some jp =>
      rw [hp] at h2
      simp only [Option.map_some, Option.some.injEq] at h1 h2
      exact ⟨te, j, jp, hu, hi, by omega, hp, h2⟩
theorem ptrT_c : PtrC Try.prog ptrT := ptr_c (n := 3) Try.underlying55 (by kernel_rfl) (by kernel_rfl)
theorem eqIface (w : World) (d : Nat) {a b : Addr} (ha : PlainAt w a) (hb : PlainAt w b) :
    (Op.equalIn (d + 2) 20 (.iface ptrT (.pointer (some a))) (.iface ptrT (.pointer (some b)))).run Try.prog w = .ok (a == b) w := by
  obtain ⟨te, q, jp, hu, hq, hz, hp, hc⟩ := ptrT_c
  have h9 := eqPtr w d hu hq hz ha hb
  rw [Op.equalIn]
  simp [run_underlying Try.underlying20, typeInfo, hp, hc, h9]
theorem eqPlace {k l : Pk} (w : World) (ha : PlainAt w k.1) (hb : PlainAt w l.1) : (Op.equal 43 (kvP k) (kvP l)).run Try.prog w = .ok (decide (k = l)) w := by
  obtain ⟨ka, kn⟩ := k
  obtain ⟨la, ln⟩ := l
  have hst : Try.prog.stoodInHeld 43 = false := by kernel_rfl
  obtain ⟨f0, f1, hu, n0, n1, e0, e1, o0, o1⟩ : ∃ f0 f1, Try.prog.underlying 43 = some (.struct #[f0, f1]) ∧ f0.name ≠ "_" ∧ f1.name ≠ "_" ∧ f0.type = 20 ∧ f1.type = 3 ∧ f0.offset = 0 ∧ f1.offset = 1 := ⟨_, _, Try.underlying43, by decide, by decide, rfl, rfl, rfl, rfl⟩
  have hf : Try.prog.fieldsOf 43 = #[f0, f1] := by unfold Program.fieldsOf; rw [hu]
  have hu2 : Try.prog.underlying 43 = some (.struct (Try.prog.fieldsOf 43)) := by rw [hf]; exact hu
  unfold Op.equal Op.maxDepth kvP
  rw [show (10000 : Nat) = 9999 + 1 from rfl, run_equalIn_struct w 9999 43 _ _ hu2 hst, hf]
  have ia : (isAgg 20).run Try.prog w = .ok false w := by simp [isAgg, run_underlying Try.underlying20]
  have ib : (isAgg 3).run Try.prog w = .ok false w := by simp [isAgg, run_underlying Try.underlying3]
  have pa : ∀ x y : Value, (part 20 #[x, y] 0).run Try.prog w = .ok x w := fun x y => by simp [part, ia]
  have pb : ∀ x y : Value, (part 3 #[x, y] 1).run Try.prog w = .ok y w := fun x y => by simp [part, ib]
  have q0 : (Op.equalIn 9999 20 (.iface ptrT (.pointer (some ka))) (.iface ptrT (.pointer (some la)))).run Try.prog w = .ok (ka == la) w := eqIface w 9997 ha hb
  have q1 : (Op.equalIn 9999 3 (.int .i64 (kn : Int)) (.int .i64 (ln : Int))).run Try.prog w = .ok (decide (kn = ln)) w := by
    rw [show (9999 : Nat) = 9998 + 1 from rfl, Op.equalIn]
    simp [run_underlying Try.underlying3]
    by_cases h : kn = ln
    · simp [h]
    · have h2 : ¬ ((kn : Int) = ln) := by omega
      simp [h, h2]
  simp only [Op.eqFields, e0, e1, o0, o1, n0, n1, ne_eq, not_false_eq_true, if_true, Sem.run_bind, pa, pb, Result.andThen_ok, q0, q1, Sem.run_ite, Sem.run_pure]
  by_cases h2 : ka = la <;> by_cases h3 : kn = ln <;> simp [h2, h3]
theorem check_place (b : Bool) (w : World) (k : Pk) : (Instr.checkKey b 10000 43 (kvP k)).run Try.prog w = .ok () w := by
  obtain ⟨f0, f1, hu, n0, n1, e0, e1, o0, o1⟩ : ∃ f0 f1, Try.prog.underlying 43 = some (.struct #[f0, f1]) ∧ f0.name ≠ "_" ∧ f1.name ≠ "_" ∧ f0.type = 20 ∧ f1.type = 3 ∧ f0.offset = 0 ∧ f1.offset = 1 := ⟨_, _, Try.underlying43, by decide, by decide, rfl, rfl, rfl, rfl⟩
  have ia : (isAgg 20).run Try.prog w = .ok false w := by simp [isAgg, run_underlying Try.underlying20]
  have ib : (isAgg 3).run Try.prog w = .ok false w := by simp [isAgg, run_underlying Try.underlying3]
  have pa : ∀ x y : Value, (part 20 #[x, y] 0).run Try.prog w = .ok x w := fun x y => by simp [part, ia]
  have pb : ∀ x y : Value, (part 3 #[x, y] 1).run Try.prog w = .ok y w := fun x y => by simp [part, ib]
  obtain ⟨te, q, jp, hpu, -, -, hp, hc⟩ := ptrT_c
  have c1 : ∀ n, (Instr.checkKey b (n + 1) ptrT (.pointer (some k.1))).run Try.prog w = .ok () w := fun n => by rw [Instr.checkKey]; simp [run_underlying hpu]
  have c0 : ∀ n, (Instr.checkKey b (n + 2) 20 (.iface ptrT (.pointer (some k.1)))).run Try.prog w = .ok () w := fun n => by rw [Instr.checkKey]; simp [run_underlying Try.underlying20, typeInfo, hp, hc, c1]
  have c2 : ∀ n, (Instr.checkKey b (n + 1) 3 (.int .i64 (k.2 : Int))).run Try.prog w = .ok () w := fun n => by rw [Instr.checkKey]; simp [run_underlying Try.underlying3]
  unfold kvP
  rw [show (10000 : Nat) = 9999 + 1 from rfl, Instr.checkKey]
  simp [run_underlying hu, n0, n1, e0, e1, o0, o1, pa, pb, c0, c2]
theorem finds_place {w : World} {k : Pk} (ha : PlainAt w k.1) {es : Array MapEntry} {ks : List Pk} (hs : SetIs kvP es ks) (hp : ∀ b ∈ ks, PlainAt w b.1) : Finds Try.prog 43 w kvP k es.toList ks := by
  have key := asks (P := Try.prog) (t := 43) (w := w) (kv := kvP) (k := k) es.toList ks 0 hs.keys hs.vals fun b hb => eqPlace w ha (hp b hb)
  obtain ⟨fs, hu⟩ : ∃ fs, Try.prog.underlying 43 = some (.struct fs) := ⟨_, Try.underlying43⟩
  cases hes : es.toList with
  | nil =>
    have hk2 := hs.keys
    rw [hes] at hk2
    have : ks = [] := by
      simp at hk2
      exact hk2
    subst this
    exact .inl ⟨by simp, by simp [Instr.findKey, run_underlying hu, Instr.findNow]⟩
  | cons e r =>
    rw [hes] at key
    have hn : Instr.findNow (.struct fs) (kvP k) (e :: r) 0 = none := by simp [Instr.findNow, Instr.sameNow]
    have hstep : (Instr.findKey 43 (kvP k) (e :: r)).run Try.prog w = (Instr.findAsking 43 (kvP k) (e :: r) 0).run Try.prog w := by
      simp [Instr.findKey, run_underlying hu, hn]
    rcases key with ⟨h1, h2⟩ | ⟨h1, j, h2, h3, h4⟩
    · exact .inl ⟨h1, hstep.trans h2⟩
    · exact .inr ⟨h1, j, h2, h3, by rw [hstep, h4]; simp⟩
theorem stays_place (w : World) (k : Pk) : (Instr.keyThatStays (kvP k) (kvP k)).run Try.prog w = .ok (kvP k) w := by
  have h : Instr.sameBits 10000 (kvP k) (kvP k) = true := by
    unfold kvP
    simp [Instr.sameBits]
  simp [Instr.keyThatStays, h]

set_option maxHeartbeats 1000000 in
set_option maxRecDepth 100000 in
theorem isFirst_place (m : Nat) (k : Pk) (ks : List Pk) (w : World) (hs : SetAt w m kvP ks) (pa : PlainAt w k.1) (hp : ∀ b ∈ ks, PlainAt w b.1) :
    Calls Try.prog 17 #[.map (some m), kvP k] w fun e w' => (∃ q, e = .returned (.bool (!q)) ∧ (q = true ↔ k ∈ ks)) ∧ SetAt w' m kvP (addK ks k) ∧ Oth m w w' := by
  have hlt := hs.lt
  obtain ⟨es, c, hm, hi⟩ := hs
  have HB1 : Hid (Below w.heap.size w (w.alloc (.cells #[.iface ptrT (.pointer (some k.1)), .int .i64 (k.2 : Int)] 43))) := (Below.refl _ w).alloc (Nat.le_refl _) _
  have HB2 : Hid (Below w.heap.size w ((w.alloc (.cells #[.iface ptrT (.pointer (some k.1)), .int .i64 (k.2 : Int)] 43)).alloc (.cells #[] 53))) := HB1.out.alloc (by simp) _
  have hfi : ∀ W, Below w.heap.size w W → Finds Try.prog 43 W kvP k es.toList ks := fun W hB => finds_place (plain_later pa hB (Nat.le_refl _)) hi fun b hb => plain_later (hp b hb) hB (Nat.le_refl _)
  have hl1 := look_set Try.underlying48 zero_unit (fun b => check_place b _ _) ((HB1.out.block m hlt).trans hm) (hfi _ HB1.out)
  have hl2 := look_set Try.underlying48 zero_unit (fun b => check_place b _ _) ((HB2.out.block m hlt).trans hm) (hfi _ HB2.out)
  obtain ⟨es', c', hu, hi'⟩ := put_set Try.underlying48 (fun b => check_place b _ _) (stays_place _ k) ((HB2.out.block m hlt).trans hm) hi (hfi _ HB2.out)
  have HI := hide hi'
  have HM2 := hide ((HB2.out.block m hlt).trans hm)
  unfold kvP at hl1 hl2 hu ⊢
  generalize hq : decide (k ∈ ks) = q at hl1 hl2
  have HQ : Hid (q = true ↔ k ∈ ks) := by rw [← hq]; exact decide_eq_true_iff
  clear hq
  clear hi hi' hp pa hfi
  go_enter Try.func17, Try.ntmps17
  go_wp2
  all_goals
    go_wp2
    go_ret
    refine ⟨⟨_, rfl, by first | exact HQ.out | simp⟩, ⟨_, _, heap_setBlock_same HM2.out _, HI.out⟩, oth_of HB2.out HM2.out rfl⟩
theorem st2_at {w : World} {g : Nat} {E : TypeId} {c0 c1 : Value} (h : w.heap[g]? = some (.cells #[c0, c1] E (0, 0))) (v0 v1 : Value) : ((w.setCell ⟨g, 0, none⟩ v0).setCell ⟨g, 1, none⟩ v1).heap[g]? = some (.cells #[v0, v1] E (0, 0)) := heap_set_same v1 (heap_set_same v0 h)

set_option maxHeartbeats 1000000 in
set_option maxRecDepth 100000 in
theorem placeOf_any (b off n c : Nat) (hn : n ≠ 0) (hm : n ≤ maxLen) (hc : n ≤ c) (w : World) :
    Calls Try.prog 20 #[.slice (some ⟨b, off, none⟩) n c] w fun e w' => e = .returned (kvP (⟨b, off, none⟩, n)) ∧ Below w.heap.size w w' := by
  have hm2 : n ≤ 9223372036854775807 := hm
  have h1 : (n : Int) ≠ 0 := by omega
  have h2 : (0 : Int) < n := by omega
  have h3 : ((n : Int) == 0) = false := by simpa using h1
  clear hm
  go_enter Try.func20, Try.ntmps20
  go_wp2
  refine bodyPost_ret (v := .agg #[.iface ptrT (.pointer (some ⟨b, off, none⟩)), .int .i64 (n : Int)]) ?_ rfl ?_
  · exact results_cell_row rfl _ _ w.heap.size 43 _ (0, 0) _ rfl (heap_alloc_new w _) Try.underlying43 rfl (by kernel_rfl)
  · exact ⟨rfl, (Below.refl _ w).alloc (Nat.le_refl _) _⟩
set_option maxHeartbeats 1000000 in
set_option maxRecDepth 100000 in
theorem place_any (b off n c : Nat) (hn : n ≠ 0) (hm : n ≤ maxLen) (hc : n ≤ c) (w : World) :
    Calls Try.prog 13 #[.slice (some ⟨b, off, none⟩) n c] w fun e w' => e = .returned (kvP (⟨b, off, none⟩, n)) ∧ Below w.heap.size w w' := by
  go_enter Try.func13, Try.ntmps13
  go_wp2_with fail
  refine (placeOf_any b off n c hn hm hc _).mono ?_
  rintro e w1 ⟨rfl, hb⟩
  have HB := hide ((Below.refl _ w).alloc (Nat.le_refl _) (.cells #[.nilIface, .int .i64 0] 43) |>.trans (hb.mono (by simp)))
  have hx : w1.heap[w.heap.size]? = some (.cells #[.nilIface, .int .i64 0] 43 (0, 0)) := (hb.block _ (by simp)).trans (heap_alloc_new w _)
  have HX := hide hx
  have x0 := cell_of hx 0
  have x1 := cell_of hx 1
  have f0 := frozen_of hx 0
  have f1 := frozen_of hx 1
  simp only [List.getElem?_toArray, List.getElem?_cons_succ, List.getElem?_cons_zero] at x0 x1
  clear hb hx
  unfold kvP
  go_wp2
  refine bodyPost_ret (v := .agg #[.iface ptrT (.pointer (some ⟨b, off, none⟩)), .int .i64 (n : Int)]) ?_ rfl ?_
  · exact results_cell_row rfl _ _ w.heap.size 43 _ (0, 0) _ rfl (st2_at HX.out _ _) Try.underlying43 rfl (by kernel_rfl)
  · exact ⟨rfl, (HB.out.setCell (Nat.le_refl _) _).setCell (Nat.le_refl _) _⟩
end Go.Proofs.Ytifambhfggodaaa.Rs

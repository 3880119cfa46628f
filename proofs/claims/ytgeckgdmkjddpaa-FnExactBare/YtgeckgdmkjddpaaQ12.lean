/- Made of CY, CX, QI, CU, CWa. -/
import Derived.Test.YtgeckgdmkjddpaaQ11
import Derived.RangeFuncNested
import Derived.RangeFuncBound
import Derived.RangeFuncCalls
import Derived.RangeFuncLeaves
import Derived.Shelf.Abstract
import Derived.Shelf.RegionOpen
import Derived.WalkKit
import Derived.OwnWalkIn
import Derived.TacticsInMore
import Derived.LoopNIn
import Derived.LoopIn
import Derived.Test.YtgeckgdmkjddpaaQ00
namespace Go.Proofs.Ytgeckgdmkjddpaa.Br
open Go.ChangeShapes Go.WideShapes Go.ChangeAt Go.RowKit Go.Proofs.Ytgeckgdmkjddpaa.Vo
open Go.ChangeMaps (setBlock heap_setBlock_same heap_setBlock_other)
set_option linter.unusedVariables false

theorem zero_unit (w : World) : (zeroValue 173).run Try.prog w = .ok (.agg #[]) w := by kernel_rfl
theorem plain_later {n : Nat} {w w' : World} {a : Addr} (h : PlainAt w a) (hb : Below n w w') (hn : w.heap.size ≤ n) : PlainAt w' a := by
  obtain ⟨c, e, h1⟩ := h
  exact ⟨c, e, (hb.block _ (Nat.lt_of_lt_of_le (Array.getElem?_eq_some_iff.1 h1).1 hn)).trans h1⟩
/-- All is kept but block m. -/
def Oth (m : Nat) (w w' : World) : Prop := Keeps (fun k => k < w.heap.size ∧ k ≠ m) w w'
theorem oth_of {w W W' : World} {m : Nat} {o : Obj} {es : Array MapEntry} {c : Nat} (hB : Below w.heap.size w W) (hb : W.heap[m]? = some (.map es c)) (e : W' = setBlock W m o) : Oth m w W' := by
  subst e
  refine ⟨hB.os, hB.tape, hB.output, by simpa [setBlock] using hB.size, fun k hk => ?_⟩
  rw [heap_setBlock_other hb o hk.2]
  exact hB.block k hk.1

abbrev Pk : Type := Nat × Addr × Nat
def ptrT (i : Nat) : TypeId := if i = 0 then 134 else if i = 1 then 133 else 160
def kvP (k : Pk) : Value := .agg #[.iface (ptrT k.1) (.pointer (some k.2.1)), .int .i64 (k.2.2 : Int)]
theorem ptrT_inj {i j : Nat} (hi : i < 3) (hj : j < 3) (h : ptrT i = ptrT j) : i = j := by
  have hi3 : i = 0 ∨ i = 1 ∨ i = 2 := by omega
  have hj3 : j = 0 ∨ j = 1 ∨ j = 2 := by omega
  rcases hi3 with rfl | rfl | rfl <;> rcases hj3 with rfl | rfl | rfl <;> first | rfl | (exfalso; revert h; decide)
/-- A pointer's type: what it points to is not of size 0; it can be compared. -/
def PtrC (P : Program) (tp : TypeId) : Prop := ∃ te j jp, P.underlying tp = some (.pointer te) ∧ P.info? te = some j ∧ j.size ≠ 0 ∧ P.info? tp = some jp ∧ jp.comparable = true
theorem ptr_c {tp te : TypeId} {n : Nat} (hu : Try.prog.underlying tp = some (.pointer te)) (h1 : (Try.prog.info? te).map (fun i => i.size) = some (n + 1)) (h2 : (Try.prog.info? tp).map (fun i => i.comparable) = some true) : PtrC Try.prog tp := by
  cases hi : Try.prog.info? te with
  | none => rw [hi] at h1; cases h1
  | some j =>
    rw [hi] at h1
    cases hp : Try.prog.info? tp with
    | none => rw [hp] at h2; cases h2
    | some jp =>
      rw [hp] at h2
      simp only [Option.map_some, Option.some.injEq] at h1 h2
      exact ⟨te, j, jp, hu, hi, by omega, hp, h2⟩
theorem ptrT_c {i : Nat} (hi : i < 3) : PtrC Try.prog (ptrT i) := by
  have hi3 : i = 0 ∨ i = 1 ∨ i = 2 := by omega
  rcases hi3 with rfl | rfl | rfl
  · exact ptr_c (n := 5) Try.underlying134 (by kernel_rfl) (by kernel_rfl)
  · exact ptr_c (n := 8) Try.underlying133 (by kernel_rfl) (by kernel_rfl)
  · exact ptr_c (n := 7) Try.underlying160 (by kernel_rfl) (by kernel_rfl)
theorem eqIface {i j : Nat} (hi : i < 3) (hj : j < 3) (w : World) (d : Nat) {a b : Addr} (ha : PlainAt w a) (hb : PlainAt w b) :
    (Op.equalIn (d + 2) 20 (.iface (ptrT i) (.pointer (some a))) (.iface (ptrT j) (.pointer (some b)))).run Try.prog w = .ok (decide (i = j) && (a == b)) w := by
  by_cases e : i = j
  · subst e
    obtain ⟨te, q, jp, hu, hq, hz, hp, hc⟩ := ptrT_c hi
    have h9 := eqPtr w d hu hq hz ha hb
    rw [Op.equalIn]
    simp [run_underlying Try.underlying20, typeInfo, hp, hc, h9]
  · have hne : ptrT i ≠ ptrT j := fun h => e (ptrT_inj hi hj h)
    rw [Op.equalIn]
    simp [run_underlying Try.underlying20, hne, e]
theorem eqPlace {k l : Pk} (hk : k.1 < 3) (hl : l.1 < 3) (w : World) (ha : PlainAt w k.2.1) (hb : PlainAt w l.2.1) : (Op.equal 115 (kvP k) (kvP l)).run Try.prog w = .ok (decide (k = l)) w := by
  obtain ⟨ki, ka, kn⟩ := k
  obtain ⟨li, la, ln⟩ := l
  have hst : Try.prog.stoodInHeld 115 = false := by kernel_rfl
  obtain ⟨f0, f1, hu, n0, n1, e0, e1, o0, o1⟩ : ∃ f0 f1, Try.prog.underlying 115 = some (.struct #[f0, f1]) ∧ f0.name ≠ "_" ∧ f1.name ≠ "_" ∧ f0.type = 20 ∧ f1.type = 3 ∧ f0.offset = 0 ∧ f1.offset = 1 := ⟨_, _, Try.underlying115, by decide, by decide, rfl, rfl, rfl, rfl⟩
  have hf : Try.prog.fieldsOf 115 = #[f0, f1] := by unfold Program.fieldsOf; rw [hu]
  have hu2 : Try.prog.underlying 115 = some (.struct (Try.prog.fieldsOf 115)) := by rw [hf]; exact hu
  unfold Op.equal Op.maxDepth kvP
  rw [show (10000 : Nat) = 9999 + 1 from rfl, run_equalIn_struct w 9999 115 _ _ hu2 hst, hf]
  have ia : (isAgg 20).run Try.prog w = .ok false w := by simp [isAgg, run_underlying Try.underlying20]
  have ib : (isAgg 3).run Try.prog w = .ok false w := by simp [isAgg, run_underlying Try.underlying3]
  have pa : ∀ x y : Value, (part 20 #[x, y] 0).run Try.prog w = .ok x w := fun x y => by simp [part, ia]
  have pb : ∀ x y : Value, (part 3 #[x, y] 1).run Try.prog w = .ok y w := fun x y => by simp [part, ib]
  have q0 : (Op.equalIn 9999 20 (.iface (ptrT ki) (.pointer (some ka))) (.iface (ptrT li) (.pointer (some la)))).run Try.prog w = .ok (decide (ki = li) && (ka == la)) w := eqIface hk hl w 9997 ha hb
  have q1 : (Op.equalIn 9999 3 (.int .i64 (kn : Int)) (.int .i64 (ln : Int))).run Try.prog w = .ok (decide (kn = ln)) w := by
    rw [show (9999 : Nat) = 9998 + 1 from rfl, Op.equalIn]
    simp [run_underlying Try.underlying3]
    by_cases h : kn = ln
    · simp [h]
    · have h2 : ¬ ((kn : Int) = ln) := by omega
      simp [h, h2]
  simp only [Op.eqFields, e0, e1, o0, o1, n0, n1, ne_eq, not_false_eq_true, if_true, Sem.run_bind, pa, pb, Result.andThen_ok, q0, q1, Sem.run_ite, Sem.run_pure]
  by_cases h1 : ki = li <;> by_cases h2 : ka = la <;> by_cases h3 : kn = ln <;> simp [h1, h2, h3]
theorem check_place (b : Bool) (w : World) {k : Pk} (hk : k.1 < 3) : (Instr.checkKey b 10000 115 (kvP k)).run Try.prog w = .ok () w := by
  obtain ⟨f0, f1, hu, n0, n1, e0, e1, o0, o1⟩ : ∃ f0 f1, Try.prog.underlying 115 = some (.struct #[f0, f1]) ∧ f0.name ≠ "_" ∧ f1.name ≠ "_" ∧ f0.type = 20 ∧ f1.type = 3 ∧ f0.offset = 0 ∧ f1.offset = 1 := ⟨_, _, Try.underlying115, by decide, by decide, rfl, rfl, rfl, rfl⟩
  have ia : (isAgg 20).run Try.prog w = .ok false w := by simp [isAgg, run_underlying Try.underlying20]
  have ib : (isAgg 3).run Try.prog w = .ok false w := by simp [isAgg, run_underlying Try.underlying3]
  have pa : ∀ x y : Value, (part 20 #[x, y] 0).run Try.prog w = .ok x w := fun x y => by simp [part, ia]
  have pb : ∀ x y : Value, (part 3 #[x, y] 1).run Try.prog w = .ok y w := fun x y => by simp [part, ib]
  obtain ⟨te, q, jp, hpu, -, -, hp, hc⟩ := ptrT_c hk
  have c1 : ∀ n, (Instr.checkKey b (n + 1) (ptrT k.1) (.pointer (some k.2.1))).run Try.prog w = .ok () w := fun n => by rw [Instr.checkKey]; simp [run_underlying hpu]
  have c0 : ∀ n, (Instr.checkKey b (n + 2) 20 (.iface (ptrT k.1) (.pointer (some k.2.1)))).run Try.prog w = .ok () w := fun n => by rw [Instr.checkKey]; simp [run_underlying Try.underlying20, typeInfo, hp, hc, c1]
  have c2 : ∀ n, (Instr.checkKey b (n + 1) 3 (.int .i64 (k.2.2 : Int))).run Try.prog w = .ok () w := fun n => by rw [Instr.checkKey]; simp [run_underlying Try.underlying3]
  unfold kvP
  rw [show (10000 : Nat) = 9999 + 1 from rfl, Instr.checkKey]
  simp [run_underlying hu, n0, n1, e0, e1, o0, o1, pa, pb, c0, c2]
theorem finds_place {w : World} {k : Pk} (hk : k.1 < 3) (ha : PlainAt w k.2.1) {es : Array MapEntry} {ks : List Pk} (hs : SetIs kvP es ks) (hp : ∀ b ∈ ks, b.1 < 3 ∧ PlainAt w b.2.1) : Finds Try.prog 115 w kvP k es.toList ks := by
  have key := asks (P := Try.prog) (t := 115) (w := w) (kv := kvP) (k := k) es.toList ks 0 hs.keys hs.vals fun b hb => eqPlace hk (hp b hb).1 w ha (hp b hb).2
  obtain ⟨fs, hu⟩ : ∃ fs, Try.prog.underlying 115 = some (.struct fs) := ⟨_, Try.underlying115⟩
  cases hes : es.toList with
  | nil =>
    have hk2 := hs.keys
    rw [hes] at hk2
    have : ks = [] := by
      simp at hk2
      exact hk2
    subst this
    exact .inl ⟨by simp, by simp [Instr.findKey, run_underlying hu, Instr.findNow]⟩
  | cons e r =>
    rw [hes] at key
    have hn : Instr.findNow (.struct fs) (kvP k) (e :: r) 0 = none := by simp [Instr.findNow, Instr.sameNow]
    have hstep : (Instr.findKey 115 (kvP k) (e :: r)).run Try.prog w = (Instr.findAsking 115 (kvP k) (e :: r) 0).run Try.prog w := by
      simp [Instr.findKey, run_underlying hu, hn]
    rcases key with ⟨h1, h2⟩ | ⟨h1, j, h2, h3, h4⟩
    · exact .inl ⟨h1, hstep.trans h2⟩
    · exact .inr ⟨h1, j, h2, h3, by rw [hstep, h4]; simp⟩
theorem stays_place (w : World) (k : Pk) : (Instr.keyThatStays (kvP k) (kvP k)).run Try.prog w = .ok (kvP k) w := by
  have h : Instr.sameBits 10000 (kvP k) (kvP k) = true := by
    unfold kvP
    simp [Instr.sameBits]
  simp [Instr.keyThatStays, h]

set_option maxHeartbeats 1000000 in
set_option maxRecDepth 100000 in
theorem isFirst_place (m : Nat) (k : Pk) (hk : k.1 < 3) (ks : List Pk) (w : World) (hs : SetAt w m kvP ks) (pa : PlainAt w k.2.1) (hp : ∀ b ∈ ks, b.1 < 3 ∧ PlainAt w b.2.1) :
    Calls Try.prog 70 #[.map (some m), kvP k] w fun e w' => (∃ q, e = .returned (.bool (!q)) ∧ (q = true ↔ k ∈ ks)) ∧ SetAt w' m kvP (addK ks k) ∧ Oth m w w' := by
  have hlt := hs.lt
  obtain ⟨es, c, hm, hi⟩ := hs
  have HB1 : Hid (Below w.heap.size w (w.alloc (.cells #[.iface (ptrT k.1) (.pointer (some k.2.1)), .int .i64 (k.2.2 : Int)] 115))) := (Below.refl _ w).alloc (Nat.le_refl _) _
  have HB2 : Hid (Below w.heap.size w ((w.alloc (.cells #[.iface (ptrT k.1) (.pointer (some k.2.1)), .int .i64 (k.2.2 : Int)] 115)).alloc (.cells #[] 173))) := HB1.out.alloc (by simp) _
  have hfi : ∀ W, Below w.heap.size w W → Finds Try.prog 115 W kvP k es.toList ks := fun W hB => finds_place hk (plain_later pa hB (Nat.le_refl _)) hi fun b hb => ⟨(hp b hb).1, plain_later (hp b hb).2 hB (Nat.le_refl _)⟩
  have hl1 := look_set Try.underlying151 zero_unit (fun b => check_place b _ hk) ((HB1.out.block m hlt).trans hm) (hfi _ HB1.out)
  have hl2 := look_set Try.underlying151 zero_unit (fun b => check_place b _ hk) ((HB2.out.block m hlt).trans hm) (hfi _ HB2.out)
  obtain ⟨es', c', hu, hi'⟩ := put_set Try.underlying151 (fun b => check_place b _ hk) (stays_place _ k) ((HB2.out.block m hlt).trans hm) hi (hfi _ HB2.out)
  have HI := hide hi'
  have HM2 := hide ((HB2.out.block m hlt).trans hm)
  unfold kvP at hl1 hl2 hu ⊢
  generalize hq : decide (k ∈ ks) = q at hl1 hl2
  have HQ : Hid (q = true ↔ k ∈ ks) := by rw [← hq]; exact decide_eq_true_iff
  clear hq
  clear hi hi' hp pa hfi
  go_enter Try.func70, Try.ntmps70
  go_wp2
  all_goals
    go_wp2
    go_ret
    refine ⟨⟨_, rfl, by first | exact HQ.out | simp⟩, ⟨_, _, heap_setBlock_same HM2.out _, HI.out⟩, oth_of HB2.out HM2.out rfl⟩
end Go.Proofs.Ytgeckgdmkjddpaa.Br
namespace Go.Proofs.Ytgeckgdmkjddpaa.Br
open Go.ChangeShapes Go.WideShapes Go.ChangeAt Go.RowKit Go.Proofs.Ytgeckgdmkjddpaa.Vo
set_option linter.unusedVariables false

theorem st2_at {w : World} {g : Nat} {E : TypeId} {c0 c1 : Value} (h : w.heap[g]? = some (.cells #[c0, c1] E (0, 0))) (v0 v1 : Value) : ((w.setCell ⟨g, 0, none⟩ v0).setCell ⟨g, 1, none⟩ v1).heap[g]? = some (.cells #[v0, v1] E (0, 0)) := heap_set_same v1 (heap_set_same v0 h)

set_option maxHeartbeats 1000000 in
set_option maxRecDepth 100000 in
theorem placeOf_0 (b off n c : Nat) (hn : n ≠ 0) (hm : n ≤ maxLen) (hc : n ≤ c) (w : World) :
    Calls Try.prog 54 #[.slice (some ⟨b, off, none⟩) n c] w fun e w' => e = .returned (kvP (0, ⟨b, off, none⟩, n)) ∧ Below w.heap.size w w' := by
  have hm2 : n ≤ 9223372036854775807 := hm
  have h1 : (n : Int) ≠ 0 := by omega
  have h2 : (0 : Int) < n := by omega
  have h3 : ((n : Int) == 0) = false := by simpa using h1
  clear hm
  go_enter Try.func54, Try.ntmps54
  go_wp2
  refine bodyPost_ret (v := .agg #[.iface (ptrT 0) (.pointer (some ⟨b, off, none⟩)), .int .i64 (n : Int)]) ?_ rfl ?_
  · exact results_cell_row rfl _ _ w.heap.size 115 _ (0, 0) _ rfl (heap_alloc_new w _) Try.underlying115 rfl (by kernel_rfl)
  · exact ⟨rfl, (Below.refl _ w).alloc (Nat.le_refl _) _⟩
set_option maxHeartbeats 1000000 in
set_option maxRecDepth 100000 in
theorem place_0 (b off n c : Nat) (hn : n ≠ 0) (hm : n ≤ maxLen) (hc : n ≤ c) (w : World) :
    Calls Try.prog 106 #[.slice (some ⟨b, off, none⟩) n c] w fun e w' => e = .returned (kvP (0, ⟨b, off, none⟩, n)) ∧ Below w.heap.size w w' := by
  go_enter Try.func106, Try.ntmps106
  go_wp2_with fail
  refine (placeOf_0 b off n c hn hm hc _).mono ?_
  rintro e w1 ⟨rfl, hb⟩
  have HB := hide ((Below.refl _ w).alloc (Nat.le_refl _) (.cells #[.nilIface, .int .i64 0] 115) |>.trans (hb.mono (by simp)))
  have hx : w1.heap[w.heap.size]? = some (.cells #[.nilIface, .int .i64 0] 115 (0, 0)) := (hb.block _ (by simp)).trans (heap_alloc_new w _)
  have HX := hide hx
  have x0 := cell_of hx 0
  have x1 := cell_of hx 1
  have f0 := frozen_of hx 0
  have f1 := frozen_of hx 1
  simp only [List.getElem?_toArray, List.getElem?_cons_succ, List.getElem?_cons_zero] at x0 x1
  clear hb hx
  unfold kvP
  go_wp2
  refine bodyPost_ret (v := .agg #[.iface (ptrT 0) (.pointer (some ⟨b, off, none⟩)), .int .i64 (n : Int)]) ?_ rfl ?_
  · exact results_cell_row rfl _ _ w.heap.size 115 _ (0, 0) _ rfl (st2_at HX.out _ _) Try.underlying115 rfl (by kernel_rfl)
  · exact ⟨rfl, (HB.out.setCell (Nat.le_refl _) _).setCell (Nat.le_refl _) _⟩
set_option maxHeartbeats 1000000 in
set_option maxRecDepth 100000 in
theorem placeOf_1 (b off n c : Nat) (hn : n ≠ 0) (hm : n ≤ maxLen) (hc : n ≤ c) (w : World) :
    Calls Try.prog 67 #[.slice (some ⟨b, off, none⟩) n c] w fun e w' => e = .returned (kvP (1, ⟨b, off, none⟩, n)) ∧ Below w.heap.size w w' := by
  have hm2 : n ≤ 9223372036854775807 := hm
  have h1 : (n : Int) ≠ 0 := by omega
  have h2 : (0 : Int) < n := by omega
  have h3 : ((n : Int) == 0) = false := by simpa using h1
  clear hm
  go_enter Try.func67, Try.ntmps67
  go_wp2
  refine bodyPost_ret (v := .agg #[.iface (ptrT 1) (.pointer (some ⟨b, off, none⟩)), .int .i64 (n : Int)]) ?_ rfl ?_
  · exact results_cell_row rfl _ _ w.heap.size 115 _ (0, 0) _ rfl (heap_alloc_new w _) Try.underlying115 rfl (by kernel_rfl)
  · exact ⟨rfl, (Below.refl _ w).alloc (Nat.le_refl _) _⟩
set_option maxHeartbeats 1000000 in
set_option maxRecDepth 100000 in
theorem place_1 (b off n c : Nat) (hn : n ≠ 0) (hm : n ≤ maxLen) (hc : n ≤ c) (w : World) :
    Calls Try.prog 111 #[.slice (some ⟨b, off, none⟩) n c] w fun e w' => e = .returned (kvP (1, ⟨b, off, none⟩, n)) ∧ Below w.heap.size w w' := by
  go_enter Try.func111, Try.ntmps111
  go_wp2_with fail
  refine (placeOf_1 b off n c hn hm hc _).mono ?_
  rintro e w1 ⟨rfl, hb⟩
  have HB := hide ((Below.refl _ w).alloc (Nat.le_refl _) (.cells #[.nilIface, .int .i64 0] 115) |>.trans (hb.mono (by simp)))
  have hx : w1.heap[w.heap.size]? = some (.cells #[.nilIface, .int .i64 0] 115 (0, 0)) := (hb.block _ (by simp)).trans (heap_alloc_new w _)
  have HX := hide hx
  have x0 := cell_of hx 0
  have x1 := cell_of hx 1
  have f0 := frozen_of hx 0
  have f1 := frozen_of hx 1
  simp only [List.getElem?_toArray, List.getElem?_cons_succ, List.getElem?_cons_zero] at x0 x1
  clear hb hx
  unfold kvP
  go_wp2
  refine bodyPost_ret (v := .agg #[.iface (ptrT 1) (.pointer (some ⟨b, off, none⟩)), .int .i64 (n : Int)]) ?_ rfl ?_
  · exact results_cell_row rfl _ _ w.heap.size 115 _ (0, 0) _ rfl (st2_at HX.out _ _) Try.underlying115 rfl (by kernel_rfl)
  · exact ⟨rfl, (HB.out.setCell (Nat.le_refl _) _).setCell (Nat.le_refl _) _⟩
set_option maxHeartbeats 1000000 in
set_option maxRecDepth 100000 in
theorem placeOf_2 (b off n c : Nat) (hn : n ≠ 0) (hm : n ≤ maxLen) (hc : n ≤ c) (w : World) :
    Calls Try.prog 83 #[.slice (some ⟨b, off, none⟩) n c] w fun e w' => e = .returned (kvP (2, ⟨b, off, none⟩, n)) ∧ Below w.heap.size w w' := by
  have hm2 : n ≤ 9223372036854775807 := hm
  have h1 : (n : Int) ≠ 0 := by omega
  have h2 : (0 : Int) < n := by omega
  have h3 : ((n : Int) == 0) = false := by simpa using h1
  clear hm
  go_enter Try.func83, Try.ntmps83
  go_wp2
  refine bodyPost_ret (v := .agg #[.iface (ptrT 2) (.pointer (some ⟨b, off, none⟩)), .int .i64 (n : Int)]) ?_ rfl ?_
  · exact results_cell_row rfl _ _ w.heap.size 115 _ (0, 0) _ rfl (heap_alloc_new w _) Try.underlying115 rfl (by kernel_rfl)
  · exact ⟨rfl, (Below.refl _ w).alloc (Nat.le_refl _) _⟩
set_option maxHeartbeats 1000000 in
set_option maxRecDepth 100000 in
theorem place_2 (b off n c : Nat) (hn : n ≠ 0) (hm : n ≤ maxLen) (hc : n ≤ c) (w : World) :
    Calls Try.prog 118 #[.slice (some ⟨b, off, none⟩) n c] w fun e w' => e = .returned (kvP (2, ⟨b, off, none⟩, n)) ∧ Below w.heap.size w w' := by
  go_enter Try.func118, Try.ntmps118
  go_wp2_with fail
  refine (placeOf_2 b off n c hn hm hc _).mono ?_
  rintro e w1 ⟨rfl, hb⟩
  have HB := hide ((Below.refl _ w).alloc (Nat.le_refl _) (.cells #[.nilIface, .int .i64 0] 115) |>.trans (hb.mono (by simp)))
  have hx : w1.heap[w.heap.size]? = some (.cells #[.nilIface, .int .i64 0] 115 (0, 0)) := (hb.block _ (by simp)).trans (heap_alloc_new w _)
  have HX := hide hx
  have x0 := cell_of hx 0
  have x1 := cell_of hx 1
  have f0 := frozen_of hx 0
  have f1 := frozen_of hx 1
  simp only [List.getElem?_toArray, List.getElem?_cons_succ, List.getElem?_cons_zero] at x0 x1
  clear hb hx
  unfold kvP
  go_wp2
  refine bodyPost_ret (v := .agg #[.iface (ptrT 2) (.pointer (some ⟨b, off, none⟩)), .int .i64 (n : Int)]) ?_ rfl ?_
  · exact results_cell_row rfl _ _ w.heap.size 115 _ (0, 0) _ rfl (st2_at HX.out _ _) Try.underlying115 rfl (by kernel_rfl)
  · exact ⟨rfl, (HB.out.setCell (Nat.le_refl _) _).setCell (Nat.le_refl _) _⟩
end Go.Proofs.Ytgeckgdmkjddpaa.Br
namespace Go.Proofs.Ytgeckgdmkjddpaa.Vo
set_option linter.unusedVariables false
open Go.RowKit
open Go.ChangeMaps (setBlock heap_setBlock_same heap_setBlock_other)

set_option linter.unusedSectionVars false
section
variable {κ : Type} [DecidableEq κ]
/-- A map's entries, by their keys and what stands at each. -/
def MpIs (kv V : κ → Value) (es : Array MapEntry) (ks : List κ) : Prop := es.toList.map (fun e => (e.key, e.val)) = ks.map fun k => (kv k, V k)
theorem MpIs.keys {kv V : κ → Value} {es : Array MapEntry} {ks : List κ} (h : MpIs kv V es ks) : es.toList.map (·.key) = ks.map kv := by
  have := congrArg (List.map Prod.fst) h
  simpa [List.map_map, Function.comp_def] using this
/-- How a key is found. -/
def FindsV (P : Program) (t : TypeId) (w : World) (kv V : κ → Value) (k : κ) (es : List MapEntry) (ks : List κ) : Prop :=
  (k ∉ ks ∧ (Instr.findKey t (kv k) es).run P w = .ok none w) ∨ (k ∈ ks ∧ ∃ j, j < es.length ∧ es[j]?.map (fun e => (e.key, e.val)) = some (kv k, V k) ∧ (Instr.findKey t (kv k) es).run P w = .ok (some (j, V k)) w)
theorem asksV {P : Program} {t : TypeId} {w : World} {kv V : κ → Value} {k : κ} : ∀ (es : List MapEntry) (ks : List κ) (i : Nat), es.map (fun e => (e.key, e.val)) = ks.map (fun k => (kv k, V k)) → (∀ b ∈ ks, (Op.equal t (kv k) (kv b)).run P w = .ok (decide (k = b)) w) →
    (k ∉ ks ∧ (Instr.findAsking t (kv k) es i).run P w = .ok none w) ∨ (k ∈ ks ∧ ∃ j, j < es.length ∧ es[j]?.map (fun e => (e.key, e.val)) = some (kv k, V k) ∧ (Instr.findAsking t (kv k) es i).run P w = .ok (some (i + j, V k)) w) := by
  intro es
  induction es with
  | nil =>
    intro ks i hk _
    have : ks = [] := by
      simp at hk
      exact hk
    subst this
    exact .inl ⟨by simp, by simp [Instr.findAsking]⟩
  | cons e r ih =>
    intro ks i hk hq
    cases ks with
    | nil => simp at hk
    | cons b ls =>
      simp only [List.map_cons, List.cons.injEq] at hk
      have h1 := hq b (by simp)
      have hkey : e.key = kv b := congrArg Prod.fst hk.1
      have hval : e.val = V b := congrArg Prod.snd hk.1
      by_cases hc : k = b
      · subst hc
        simp only [decide_true] at h1
        refine .inr ⟨by simp, 0, by simp, by simp [hkey, hval], ?_⟩
        simp [Instr.findAsking, hkey, h1, hval]
      · rw [decide_eq_false hc] at h1
        have hstep : (Instr.findAsking t (kv k) (e :: r) i).run P w = (Instr.findAsking t (kv k) r (i + 1)).run P w := by
          simp [Instr.findAsking, hkey, h1]
        rw [hstep]
        rcases ih ls (i + 1) hk.2 (fun b hb => hq b (by simp [hb])) with ⟨h2, h3⟩ | ⟨h2, j, h3, h4, h5⟩
        · exact .inl ⟨by simp [hc, h2], h3⟩
        · exact .inr ⟨by simp [h2], j + 1, by simp; omega, by simpa using h4, by rw [h5]; simp; omega⟩
/-- Such a map in memory. -/
def MpAt (w : World) (m : Nat) (kv V : κ → Value) (ks : List κ) : Prop := ∃ es c, w.heap[m]? = some (.map es c) ∧ MpIs kv V es ks
theorem MpAt.lt {w : World} {m : Nat} {kv V : κ → Value} {ks : List κ} (h : MpAt w m kv V ks) : m < w.heap.size := by
  obtain ⟨es, c, h1, -⟩ := h
  exact (Array.getElem?_eq_some_iff.1 h1).1
theorem MpAt.keep {w w' : World} {m : Nat} {kv V : κ → Value} {ks : List κ} (h : MpAt w m kv V ks) (hb : w'.heap[m]? = w.heap[m]?) : MpAt w' m kv V ks := by
  obtain ⟨es, c, h1, h2⟩ := h
  exact ⟨es, c, hb.trans h1, h2⟩
theorem look_mp {P : Program} {T t u : TypeId} (hT : P.underlying T = some (.map t u)) {w : World} {kv V : κ → Value} {k : κ} (hc : ∀ b, (Instr.checkKey b 10000 t (kv k)).run P w = .ok () w) {m : Nat} {es : Array MapEntry} {c : Nat} {ks : List κ} (hm : w.heap[m]? = some (.map es c)) (hf : FindsV P t w kv V k es.toList ks) (hk : k ∈ ks) :
    (Instr.lookup T (.map (some m)) (kv k) true).run P w = .ok (.tuple #[V k, .bool true]) w ∧ (Instr.lookup T (.map (some m)) (kv k) false).run P w = .ok (V k) w := by
  have hg : (getObj m).run P w = .ok (.map es c) w := by simp [getObj, Sem.run, hm]
  rcases hf with ⟨h1, h2⟩ | ⟨h1, j, -, -, h2⟩
  · exact absurd hk h1
  · exact ⟨by simp [Instr.lookup, run_underlying hT, hg, hc, h2], by simp [Instr.lookup, run_underlying hT, hg, hc, h2]⟩
theorem put_mp {P : Program} {T t u : TypeId} (hT : P.underlying T = some (.map t u)) {w : World} {kv V : κ → Value} {k : κ} (hc : ∀ b, (Instr.checkKey b 10000 t (kv k)).run P w = .ok () w) (hst : (Instr.keyThatStays (kv k) (kv k)).run P w = .ok (kv k) w) {m : Nat} {es : Array MapEntry} {c : Nat} {ks : List κ} (hm : w.heap[m]? = some (.map es c)) (hs : MpIs kv V es ks) (hf : FindsV P t w kv V k es.toList ks) :
    ∃ es' c', (Instr.mapUpdate T (.map (some m)) (kv k) (V k)).run P w = .ok () (setBlock w m (.map es' c')) ∧ MpIs kv V es' (addK ks k) := by
  have hg : (getObj m).run P w = .ok (.map es c) w := by simp [getObj, Sem.run, hm]
  have hset : ∀ o, (setObj m o).run P w = .ok () (setBlock w m o) := fun o => by simp [setObj, Sem.run, hm, setBlock]
  rcases hf with ⟨h1, h2⟩ | ⟨h1, j, hj, hkey, h2⟩
  · refine ⟨es.push ⟨kv k, V k, c⟩, c + 1, by simp [Instr.mapUpdate, run_underlying hT, hg, hc, h2, hset], ?_⟩
    unfold addK MpIs
    rw [if_neg h1, Array.toList_push, List.map_append, List.map_append, hs]
    rfl
  · unfold addK
    rw [if_pos h1]
    have hjs : j < es.size := by simpa using hj
    have hkv : es[j]?.map (fun e => (e.key, e.val)) = some (kv k, V k) := by rw [← Array.getElem?_toList]; exact hkey
    have hkey' : es[j]?.map (·.key) = some (kv k) := by
      rw [Array.getElem?_eq_getElem hjs] at hkv ⊢
      have := congrArg (Option.map Prod.fst) hkv
      simpa using this
    refine ⟨es.modify j fun e => { e with key := kv k, val := V k }, c, by simp [Instr.mapUpdate, run_underlying hT, hg, hc, h2, hkey', hst, hset], ?_⟩
    unfold MpIs at hs ⊢
    rw [← hs]
    apply List.ext_getElem?
    intro i
    simp only [List.getElem?_map, Array.getElem?_toList, Array.getElem?_modify]
    by_cases hij : j = i
    · subst hij
      rw [if_pos rfl, hkv, Array.getElem?_eq_getElem hjs]
      rfl
    · rw [if_neg hij]
end
end Go.Proofs.Ytgeckgdmkjddpaa.Vo
namespace Go.Proofs.Ytgeckgdmkjddpaa.It
open Go.RowKit Go.Shelf
set_option linter.unusedVariables false

/-- What an iterator does between two rounds: it changes nothing below N, and nothing but what is its own. -/
structure Chg (N : Nat) (Pr : Nat → Prop) (A B : World) : Prop where
  below : Below N A B
  rest : ∀ k, k < A.heap.size → ¬ Pr k → B.heap[k]? = A.heap[k]?
theorem Chg.of {N : Nat} {Pr : Nat → Prop} {A B : World} (h : Below A.heap.size A B) (hN : N ≤ A.heap.size) : Chg N Pr A B := ⟨h.mono hN, fun k hk _ => h.block k hk⟩
theorem Chg.refl (N : Nat) (Pr : Nat → Prop) (A : World) : Chg N Pr A A := ⟨Below.refl _ _, fun _ _ _ => rfl⟩
/-- What a round keeps of what is the iterator's own. -/
def KeptP (Pr : Nat → Prop) (A B : World) : Prop := A.heap.size ≤ B.heap.size ∧ ∀ k, Pr k → k < A.heap.size → B.heap[k]? = A.heap[k]?
theorem KeptP.refl (Pr : Nat → Prop) (A : World) : KeptP Pr A A := ⟨Nat.le_refl _, fun _ _ _ => rfl⟩
theorem KeptP.trans {Pr : Nat → Prop} {A B C : World} (h : KeptP Pr A B) (k : KeptP Pr B C) : KeptP Pr A C := ⟨Nat.le_trans h.1 k.1, fun i hi hl => (k.2 i hi (Nat.lt_of_lt_of_le hl h.1)).trans (h.2 i hi hl)⟩
theorem KeptP.less {Pr Pr' : Nat → Prop} {A B : World} (h : KeptP Pr A B) (hk : ∀ k, Pr' k → Pr k) : KeptP Pr' A B := ⟨h.1, fun i hi hl => h.2 i (hk i hi) hl⟩
theorem KeptP.of {Pr : Nat → Prop} {A B : World} (h : Below A.heap.size A B) : KeptP Pr A B := ⟨h.size, fun k _ hl => h.block k hl⟩
def Stab {α : Type} (N : Nat) (J : List α → (Nat → Prop) → World → Prop) : Prop :=
  ∀ (s : List α) (Pr Pr' : Nat → Prop) (A B : World), Chg N Pr A B → N ≤ A.heap.size → (∀ k, Pr' k → Pr k ∨ A.heap.size ≤ k) → J s Pr A → J s Pr' B

/-- An iterator's word. -/
def SeqOf {α : Type} (P : Program) (g : Nat) (lb : Array Value) (encs : α → Array Value) (K : Nat → Prop) (ok : List α → α → Prop) (S : List α → Prop) (w : World) : Prop :=
  ∀ (n l : Nat) (J : List α → (Nat → Prop) → World → Prop) (Jx : List α → World → Prop) (W : World), Below w.heap.size w W → Stab W.heap.size J →
    (∀ m pre x Pr W1, J pre Pr W1 → ok pre x → W.heap.size ≤ W1.heap.size → (∀ k, Pr k → k < W1.heap.size) → YieldAt Fence.wide m P l (encs x) W1 fun e W' =>
      (e = .returned (.bool true) ∧ J (pre ++ [x]) Pr W' ∧ KeptP Pr W1 W') ∨ (e = .returned (.bool false) ∧ Jx (pre ++ [x]) W')) →
    J [] K W →
    CallsIn Fence.wide n P g (#[.func (.yield l) #[] #[]] ++ lb) W fun e W' => (∃ v, e = .returned v) ∧ ((∃ xs, S xs ∧ J xs K W') ∨ ∃ pre, Jx pre W')

/-- All but one block is as it was. -/
structure But (b : Nat) (A B : World) : Prop where
  os : B.os = A.os
  tape : B.tape = A.tape
  output : B.output = A.output
  size : B.heap.size = A.heap.size
  block : ∀ k, k ≠ b → B.heap[k]? = A.heap[k]?
theorem But.put (W : World) (b : Nat) (o : Obj) : But b W (W.putObj b o) := ⟨rfl, rfl, rfl, by simp [World.putObj], fun k hk => World.putObj_heap_other hk⟩

def leftAs {α : Type} (B : Nat) (I : List α → (Nat → Prop) → World → Prop) (Ix : Code → List α → World → Prop) (Pr : Nat → Prop) (xs : List α) (W : World) : Exit → Act → World → Prop
  | .normal, _, W' => (W'.heap[B]? = W.heap[B]? ∧ W'.heap[B + 1]? = W.heap[B + 1]?) ∧ I xs Pr W' ∧ KeptP Pr W W'
  | .ret, _, W' => (W'.heap[B]? = W.heap[B]? ∧ W'.heap[B + 1]? = W.heap[B + 1]?) ∧ Ix .ret xs W'
  | .exit id, _, W' => (W'.heap[B]? = W.heap[B]? ∧ W'.heap[B + 1]? = W.heap[B + 1]?) ∧ Ix (.exit id) xs W'
  | .goto t, _, W' => (W'.heap[B]? = W.heap[B]? ∧ W'.heap[B + 1]? = W.heap[B + 1]?) ∧ Ix (.goto t) xs W'
  | .panic _, _, _ => False
  | .outgrown, _, _ => False

theorem loop_of {α : Type} {P : Program} {n : Nat} {g : Operand} {ps : Array Tmp} {assign body : Code} {Q : Exit → Act → World → Prop} {a : Act} {w : World}
    {gf : Nat} {lb : Array Value} (hg : a.eval g = .func (.func gf) #[] lb) (eg : ∀ args w, (callFunc gf args).run P w = .ok (.enter gf args) w)
    {encs : α → Array Value} {K : Nat → Prop} {ok : List α → α → Prop} {S : List α → Prop} {w0 : World} (hseq : SeqOf P gf lb encs K ok S w0) (hb0 : Below w0.heap.size w0 w) (hps : ∀ x, (encs x).size = ps.size)
    (hK0 : ∀ k, K k → k < w.heap.size)
    (I : List α → (Nat → Prop) → World → Prop) (Ix : Code → List α → World → Prop) (hI : Stab (w.heap.size + 2) I) (hH : ∀ s Pr A B, But (w.heap.size + 1) A B → I s Pr A → I s Pr B) (hHx : ∀ c s A B, But (w.heap.size + 1) A B → Ix c s A → Ix c s B)
    (h0 : ∀ W, Below w.heap.size w W → W.heap.size = w.heap.size + 2 → I [] K W) (a₁ : α → Act)
    (hassign : ∀ (x : α) (W : World) (Kn : Act → World → Prop), Kn (a₁ x) W →
      assign.wpIn (Fence.wide.inRound (w.heap.size + 1)) (n - 1 - 1) P (Exit.then Kn (fun _ _ _ => False)) { tmps := (ps.zip (encs x)).foldl (fun t (p, v) => t.setIfInBounds p v) a.tmps, defers := [] } W)
    (hbody : ∀ (pre : List α) (x : α) (Pr : Nat → Prop) (W : World), I pre Pr W → ok pre x → w.heap.size + 2 ≤ W.heap.size → (∀ k, Pr k → k < W.heap.size) → (∃ r, W.heap[w.heap.size + 1]? = some (.loop r)) → W.heap[w.heap.size]? = some (.deferred (some [])) → ¬ Pr w.heap.size → ¬ Pr (w.heap.size + 1) → body.wpIn (Fence.wide.inRound (w.heap.size + 1)) (n - 1 - 1) P (leftAs w.heap.size I Ix Pr (pre ++ [x]) W) (a₁ x) W)
    (hdone : ∀ (xs : List α) (W : World), S xs → I xs K W → W.heap[w.heap.size]? = some (.deferred (some [])) → Q .normal { a with defers := { target := .collected w.heap.size, args := #[] } :: a.defers } W)
    (hstop : ∀ (c : Code) (pre : List α) (W : World), Ix c pre W → W.heap[w.heap.size]? = some (.deferred (some [])) → c.wpIn Fence.wide n P Q { a with defers := { target := .collected w.heap.size, args := #[] } :: a.defers } W) :
    (Code.rangeFunc g ps assign body).wpIn Fence.wide n P Q a w := by
  refine wpIn_rangeFunc fun fn hfn => ?_
  obtain ⟨R, hR⟩ : ∃ R : LoopState → Option Code → Loop, R = fun st pe => { state := st, pending := pe, fn, tmps := a.tmps, params := ps, assign, body, defers := w.heap.size } := ⟨_, rfl⟩
  obtain ⟨V, hV⟩ : ∃ V, (w.alloc (.deferred (some []))).alloc (.loop (R .ready none)) = V := ⟨_, rfl⟩
  have hVb : Below w.heap.size w V := by rw [← hV]; exact ((Below.refl _ w).alloc (Nat.le_refl _) _).alloc (by simp) _
  have hVs : V.heap.size = w.heap.size + 2 := by rw [← hV]; simp
  have hVl : V.heap[w.heap.size + 1]? = some (.loop (R .ready none)) := by
    have h9 := World.alloc_heap_new (w.alloc (.deferred (some []))) (.loop (R .ready none))
    rw [World.size_alloc, hV] at h9
    exact h9
  have hVd : V.heap[w.heap.size]? = some (.deferred (some [])) := by
    rw [← hV]
    exact (Below.heap_alloc _ _ _ (by simp)).trans (World.alloc_heap_new w _)
  refine ⟨w.heap.size + 1, [{ target := .collected w.heap.size, args := #[] }], V, { target := .fn (.func gf) lb, args := #[.func (.yield (w.heap.size + 1)) #[] #[]] }, V, gf, #[.func (.yield (w.heap.size + 1)) #[] #[]] ++ lb, V, ?_, ?_, fun f' hf' => trivial, ?_, (fun h => by cases h), ?_⟩
  · rw [← hV, hR]
    exact run_enterLoop_outer _ _ _ _ _
  · simp only [resolve, hg]
    simp [go_sem]
  · simp [invoke, go_sem, eg]
  refine (hseq (n - 1) (w.heap.size + 1)
    (fun s Pr W => I s Pr W ∧ (W.heap[w.heap.size + 1]? = some (.loop (R .ready none)) ∧ W.heap[w.heap.size]? = some (.deferred (some []))) ∧ ¬ Pr w.heap.size ∧ ¬ Pr (w.heap.size + 1))
    (fun s W => ∃ c, Ix c s W ∧ W.heap[w.heap.size + 1]? = some (.loop (R .done (some c))) ∧ W.heap[w.heap.size]? = some (.deferred (some [])))
    V (hb0.trans (hVb.mono hb0.size)) ?_ ?_ ⟨h0 V hVb hVs, ⟨hVl, hVd⟩, fun h => absurd (hK0 _ h) (by omega), fun h => absurd (hK0 _ h) (by omega)⟩).mono ?_
  · rintro s Pr Pr' A B hc hN hp ⟨hi, ⟨hl, hd⟩, n1, n2⟩
    rw [hVs] at hc hN
    refine ⟨hI s Pr Pr' A B hc hN hp hi, ⟨(hc.below.block _ (by omega)).trans hl, (hc.below.block _ (by omega)).trans hd⟩, fun h => ?_, fun h => ?_⟩
    · rcases hp _ h with h | h
      · exact n1 h
      · omega
    · rcases hp _ h with h | h
      · exact n2 h
      · omega
  · rintro m pre x Pr W ⟨hi, ⟨hl, hd⟩, n1, n2⟩ hok hN hPl
    rw [hVs] at hN
    have hy := run_yield (P := P) (args := encs x) hl (by rw [hR]; exact hps x)
    rw [hR] at hy
    obtain ⟨U, hU⟩ : ∃ U, W.putObj (w.heap.size + 1) (.loop { R .ready none with state := .busy }) = U := ⟨_, rfl⟩
    have hbu : But (w.heap.size + 1) W U := by rw [← hU]; exact But.put _ _ _
    have hUl : U.heap[w.heap.size + 1]? = some (.loop { R .ready none with state := .busy }) := by rw [← hU]; exact World.putObj_heap_same (by omega)
    have hUd : U.heap[w.heap.size]? = some (.deferred (some [])) := (hbu.block _ (by omega)).trans hd
    have hany : ∀ {m m' : Nat} {f : FuncId} {tm : Array Value} {ac bo : Code} {Rr : Ending → World → Prop}, RoundIn Fence.wide m P (w.heap.size + 1) f tm ac bo W Rr → RoundIn Fence.wide m' P (w.heap.size + 1) f tm ac bo W Rr := fun h => ⟨h.1, fun c cs _ => h.2 c cs (room_wide _)⟩
    refine ⟨fn, _, assign, body, hy, hany (m := n - 1 - 1) (roundIn_of_wpIn hfn (hassign x W _ ⟨U, by rw [← hU]; exact run_beginRound hl (by rw [hR]), ?_⟩))⟩
    refine wpIn_mono (hbody pre x Pr U (hH _ _ _ _ hbu hi) hok (by rw [hbu.size]; exact hN) (by rw [hbu.size]; exact hPl) ⟨_, hUl⟩ hUd n1 n2) ?_
    have fin : ∀ (jump : Option Code) (Y : World), (Y.heap[w.heap.size]? = U.heap[w.heap.size]? ∧ Y.heap[w.heap.size + 1]? = U.heap[w.heap.size + 1]?) → ∃ Z, (Instr.endRound (w.heap.size + 1) jump).run P Y = .ok (.bool jump.isNone) Z ∧ But (w.heap.size + 1) Y Z ∧
        Z.heap[w.heap.size + 1]? = some (.loop (R (if jump.isNone then .ready else .done) jump)) ∧ Z.heap[w.heap.size]? = some (.deferred (some [])) := by
      rintro jump Y ⟨hk1, hk2⟩
      have hYl := hk2.trans hUl
      have hr := run_endRound (P := P) jump hYl
      have hsz : w.heap.size + 1 < Y.heap.size := (Array.getElem?_eq_some_iff.1 hYl).1
      rw [hR] at hr ⊢
      exact ⟨_, hr, But.put _ _ _, World.putObj_heap_same hsz, (World.putObj_heap_other (by omega)).trans (hk1.trans hUd)⟩
    rintro e a3 Y hp
    cases e with
    | normal =>
      obtain ⟨hk, hi3, hkp⟩ := hp
      obtain ⟨Z, hr, hbz, hl3, hd3⟩ := fin none Y hk
      refine ⟨_, _, hr, .inl ⟨rfl, ⟨hH _ _ _ _ hbz hi3, ⟨hl3, hd3⟩, n1, n2⟩, ⟨?_, fun k hk hlk => ?_⟩⟩⟩
      · have h1 := hkp.1
        rw [hbu.size] at h1
        rw [hbz.size]
        exact h1
      · have hne : k ≠ w.heap.size + 1 := fun e => n2 (e ▸ hk)
        exact (hbz.block k hne).trans ((hkp.2 k hk (by rw [hbu.size]; exact hlk)).trans (hbu.block k hne))
    | ret =>
      obtain ⟨hk, hi3⟩ := hp
      obtain ⟨Z, hr, hbz, hl3, hd3⟩ := fin (some .ret) Y hk
      exact ⟨_, _, hr, .inr ⟨rfl, .ret, hHx _ _ _ _ hbz hi3, hl3, hd3⟩⟩
    | exit id =>
      obtain ⟨hk, hi3⟩ := hp
      obtain ⟨Z, hr, hbz, hl3, hd3⟩ := fin (some (.exit id)) Y hk
      exact ⟨_, _, hr, .inr ⟨rfl, .exit id, hHx _ _ _ _ hbz hi3, hl3, hd3⟩⟩
    | goto t =>
      obtain ⟨hk, hi3⟩ := hp
      obtain ⟨Z, hr, hbz, hl3, hd3⟩ := fin (some (.goto t)) Y hk
      exact ⟨_, _, hr, .inr ⟨rfl, .goto t, hHx _ _ _ _ hbz hi3, hl3, hd3⟩⟩
    | panic ch => exact hp.elim
    | outgrown => exact hp.elim
  · rintro e Y ⟨⟨v, rfl⟩, ⟨xs, hS, hi, ⟨hl, hd⟩, -, -⟩ | ⟨pre, c, hi, hl, hd⟩⟩
    · have hr := run_endLoop (P := P) hl (by rw [hR]; simp)
      rw [hR] at hr
      exact ⟨none, _, hr, hdone xs _ hS (hH _ _ _ _ (But.put _ _ _) hi) ((World.putObj_heap_other (by omega)).trans hd)⟩
    · have hr := run_endLoop (P := P) hl (by rw [hR]; simp)
      rw [hR] at hr
      exact ⟨some c, _, hr, hstop c pre _ (hHx _ _ _ _ (But.put _ _ _) hi) ((World.putObj_heap_other (by omega)).trans hd)⟩
end Go.Proofs.Ytgeckgdmkjddpaa.It
namespace Go.Proofs.Ytgeckgdmkjddpaa.Br
open Go.RowKit

def tyOf (i : Nat) : TypeId := if i = 0 then 58 else if i = 1 then 97 else 205
/-- A list as what is handed on. -/
def valL (x : Ls) : Value := .iface (tyOf x.i) (.slice x.o x.n x.c)
def one (i : Nat) (o : Option Addr) (n c : Nat) : List Ls := if n = 0 then [] else [⟨i, o, n, c⟩]
end Go.Proofs.Ytgeckgdmkjddpaa.Br

/- The program's hasWhatIsNotBare: a list of definitions with Pars or a Where among them. -/
import Derived.Test.YtnmofagmjcengaaCWa
import Derived.Test.YtnmofagmjcengaaMA
namespace Go.Proofs.Ytnmofagmjcengaa.Br
open Go.ChangeShapes Go.WideShapes Go.ChangeAt Go.RowKit
set_option linter.unusedVariables false

set_option maxHeartbeats 1000000 in
set_option maxRecDepth 100000 in
theorem notBare_any (v0 v2 v3 v4 v5 v6 v7 : Value) (o1 o9 : Option Addr) (n1 n9 c1 c9 : Nat) (h1 : n1 ≤ 10000000) (h9 : n9 ≤ 10000000) (w : World) :
    Calls Try.prog 29 #[.agg #[v0, .slice o1 n1 c1, v2, v3, v4, v5, v6, v7, .slice o9 n9 c9]] w fun e w' => e = .returned (.bool (decide (n1 ≠ 0 ∨ n9 ≠ 0))) ∧ Below w.heap.size w w' := by
  have hw : IntKind.i64.wrap ((n1 : Int) + (n9 : Int)) = (n1 : Int) + n9 := by rw [IntKind.wrap_i64]; omega
  have hd : Hid (decide ((0 : Int) < (n1 : Int) + n9) = decide (n1 ≠ 0 ∨ n9 ≠ 0)) := by
    show _ = _
    by_cases h : n1 ≠ 0 ∨ n9 ≠ 0
    · rw [decide_eq_true h, decide_eq_true (by omega)]
    · rw [decide_eq_false h, decide_eq_false (by omega)]
  rw [← hd.out]
  clear hd
  go_enter Try.func29, Try.ntmps29
  go_wp2
  go_ret
  exact ⟨by simp, (Below.refl _ w).alloc (Nat.le_refl _) _⟩

/-- What is known of a definition's cells. -/
theorem decCells {K : Nat → Prop} {w : World} {h b p : Nat} {t : Tr} {cs : List Value} (hc : ∀ q u, cs[q]? = some u → w.cell? ⟨b, p + q, none⟩ = some u) (hr : (reads K w h).de t cs) :
    ∃ v0 v2 v3 v4 v5 v6 v7 o1 n1 c1 o9 n9 c9, cs = [v0, .slice o1 n1 c1, v2, v3, v4, v5, v6, v7, .slice o9 n9 c9] ∧ n1 ≤ (wts h).de t ∧ n9 ≤ (wts h).de t ∧ lenAt w b (p + 1) = n1 ∧ lenAt w b (p + 8) = n9 := by
  cases h with
  | zero => exact hr.elim
  | succ h =>
    obtain ⟨-, -, -, e, o1, c1, ce, o9, c9, hl, rfl, -, f1, f9, -, lce, rce, r9⟩ := hr
    obtain ⟨e0, e1, e2, e3, e4, e5, rfl⟩ := six lce
    refine ⟨_, e0, e1, e2, e3, e4, e5, o1, _, c1, o9, _, c9, rfl, ?_, ?_, ?_, ?_⟩
    · show t.ss.length ≤ t.s.size + sw t.ss + (t.l.map (wts h).ex).sum + lw (wts h).de t.ds
      have : t.ss.length ≤ sw t.ss := by unfold sw; omega
      omega
    · show t.ds.length ≤ t.s.size + sw t.ss + (t.l.map (wts h).ex).sum + lw (wts h).de t.ds
      have : t.ds.length ≤ lw (wts h).de t.ds := by unfold lw; omega
      omega
    · unfold lenAt
      rw [hc 1 _ rfl]
    · unfold lenAt
      rw [hc 8 _ rfl]

theorem mem_sum {f : Tr → Nat} : ∀ (l : List Tr) (i : Nat) (x : Tr), l[i]? = some x → f x ≤ (l.map f).sum := by
  intro l
  induction l with
  | nil => intro i x h; simp at h
  | cons y r ih =>
    intro i x h
    cases i with
    | zero =>
      simp at h
      subst h
      simp
    | succ i =>
      have := ih i x (by simpa using h)
      simp only [List.map_cons, List.sum_cons]
      omega

set_option maxHeartbeats 2000000 in
set_option maxRecDepth 100000 in
theorem index_any {K : Nat → Prop} {h : Nat} (w : World) (b off n c : Nat) (xs : List Tr) (hr : Rd K w h ⟨1, some ⟨b, off, none⟩, n, c⟩ xs) (hw : lw (wtI h 1) xs ≤ 10000000) :
    Calls Try.prog 34 #[.slice (some ⟨b, off, none⟩) n c, .func (.func 29) #[] #[]] w fun e w' => ∃ r : Int, e = .returned (.int .i64 r) ∧ (0 ≤ r ↔ bad w ⟨1, some ⟨b, off, none⟩, n, c⟩) ∧ Below w.heap.size w w' := by
  obtain ⟨b', off', e1, kb, hbl, hat⟩ := hr.at
  cases e1
  have hn : n = xs.length := hr.2.2.1
  have hm : n ≤ maxLen := by have := hr.2.2.2.1.1; omega
  have hm' : n ≤ 9223372036854775807 := hm
  have hcap : n ≤ c := by have := hr.2.2.2.1.2; simp only at this; omega
  have HAT := hide hat
  have HBAD : Hid (bad w ⟨1, some ⟨b, off, none⟩, n, c⟩ ↔ ∃ j, j < n ∧ (lenAt w b (off + j * 9 + 1) ≠ 0 ∨ lenAt w b (off + j * 9 + 8) ≠ 0)) := by
    show _ ↔ _
    unfold bad
    simp
  have HW := hide hw
  clear hat hr hm hw
  go_enter Try.func34, Try.ntmps34
  go_wp2
  go_loopw [8] (fun t8 wr => ∃ i : Nat, i ≤ n ∧ t8 = .int .i64 i ∧ (∀ j, j < i → ¬ (lenAt w b (off + j * 9 + 1) ≠ 0 ∨ lenAt w b (off + j * 9 + 8) ≠ 0)) ∧ Below w.heap.size w wr) (fun t8 _ => n - (intOf t8).toNat)
  case atStart => exact ⟨0, Nat.zero_le _, rfl, fun j hj => by omega, Below.refl _ _⟩
  case round =>
    obtain ⟨i, hi, rfl, hno, hbw⟩ := hrel
    have HNO := hide hno
    have HBW := hide hbw
    clear hno hbw
    by_cases hlt : i < n
    · obtain ⟨t, ht⟩ : ∃ t, xs[i]? = some t := ⟨xs[i]'(by omega), List.getElem?_eq_getElem (by omega)⟩
      obtain ⟨cs, hlen, hcs, hrt⟩ := HAT.out i t ht
      have hcs2 : ∀ q u, cs[q]? = some u → w.cell? ⟨b, off + i * 9 + q, none⟩ = some u := hcs
      have hrt2 : (reads K w h).de t cs := hrt
      obtain ⟨v0, v2, v3, v4, v5, v6, v7, o1, n1, c1, o9, n9, c9, rfl, hn1, hn9, l1, l9⟩ := decCells hcs2 hrt2
      have hwt : (wts h).de t ≤ 10000000 := by
        have h1 := mem_sum (f := (wts h).de) xs i t ht
        have h2 : xs.length + (xs.map (wts h).de).sum ≤ 10000000 := HW.out
        omega
      have hcx : ∀ q u, [v0, .slice o1 n1 c1, v2, v3, v4, v5, v6, v7, .slice o9 n9 c9][q]? = some u → wr.cell? ⟨b, off + i * 9 + q, none⟩ = some u := fun q u hq => (HBW.out.cell (p := ⟨b, off + i * 9 + q, none⟩) hbl).trans (hcs2 q u hq)
      have q0 := hcx 0 v0 rfl
      have q1 := hcx 1 (.slice o1 n1 c1) rfl
      have q2 := hcx 2 v2 rfl
      have q3 := hcx 3 v3 rfl
      have q4 := hcx 4 v4 rfl
      have q5 := hcx 5 v5 rfl
      have q6 := hcx 6 v6 rfl
      have q7 := hcx 7 v7 rfl
      have q8 := hcx 8 (.slice o9 n9 c9) rfl
      rw [Nat.add_zero] at q0
      have HL := hide (And.intro l1 l9)
      have hlt2 : (i : Int) < n := by omega
      clear hcs hcs2 hrt hrt2 hcx l1 l9 ht hlen
      go_wp2_with fail
      refine (notBare_any v0 v2 v3 v4 v5 v6 v7 o1 o9 n1 n9 c1 c9 (by omega) (by omega) _).mono ?_
      rintro e w1 ⟨rfl, hb⟩
      have HB1 := hide (HBW.out.trans (hb.mono HBW.out.size))
      clear hb
      by_cases hz : n1 ≠ 0 ∨ n9 ≠ 0
      · rw [decide_eq_true hz]
        go_wp2
        go_ret
        refine ⟨(i : Int), rfl, ⟨fun _ => HBAD.out.2 ⟨i, hlt, ?_⟩, fun _ => by omega⟩, HB1.out⟩
        rw [HL.out.1, HL.out.2]
        exact hz
      · rw [decide_eq_false hz]
        go_wp2
        refine ⟨⟨i + 1, hlt, by go_num, fun j hj => ?_, HB1.out⟩, by simp [intOf]; omega⟩
        rcases Nat.lt_or_ge j i with h1 | h1
        · exact HNO.out j h1
        · obtain rfl : j = i := by omega
          rw [HL.out.1, HL.out.2]
          exact hz
    · obtain rfl : i = n := by omega
      go_wp2
      go_ret
      refine ⟨-1, rfl, ⟨fun h => by omega, fun hb => ?_⟩, HBW.out⟩
      obtain ⟨j, hj, hq⟩ := HBAD.out.1 hb
      exact absurd hq (HNO.out j hj)

set_option maxHeartbeats 1000000 in
set_option maxRecDepth 100000 in
theorem contains_any {K : Nat → Prop} {h : Nat} (w : World) (b off n c : Nat) (xs : List Tr) (hr : Rd K w h ⟨1, some ⟨b, off, none⟩, n, c⟩ xs) (hw : lw (wtI h 1) xs ≤ 10000000) :
    Calls Try.prog 28 #[.slice (some ⟨b, off, none⟩) n c, .func (.func 29) #[] #[]] w fun e w' => ∃ z, e = .returned (.bool z) ∧ (z = true ↔ bad w ⟨1, some ⟨b, off, none⟩, n, c⟩) ∧ Below w.heap.size w w' := by
  have HI := hide (index_any w b off n c xs hr hw)
  clear hr
  go_enter Try.func28, Try.ntmps28
  go_wp2_with fail
  refine HI.out.mono ?_
  rintro e w1 ⟨r, rfl, hiff, hb⟩
  have HB := hide hb
  have HQ := hide hiff
  clear hb hiff
  go_wp2
  go_ret
  exact ⟨_, rfl, by rw [← HQ.out]; simp, HB.out⟩

theorem ta_0 (v : Value) (w : World) : (Instr.typeAssert (.iface 50 v) 52 75 true).run Try.prog w = .ok (.tuple #[.slice none 0 0, .bool false]) w := by kernel_rfl
theorem ta_1 (v : Value) (w : World) : (Instr.typeAssert (.iface 75 v) 52 75 true).run Try.prog w = .ok (.tuple #[v, .bool true]) w := by kernel_rfl
theorem ta_2 (v : Value) (w : World) : (Instr.typeAssert (.iface 106 v) 52 75 true).run Try.prog w = .ok (.tuple #[.slice none 0 0, .bool false]) w := by kernel_rfl

set_option maxHeartbeats 1000000 in
set_option maxRecDepth 100000 in
theorem hasWhat_any {K : Nat → Prop} {h : Nat} (w : World) (x : Ls) (xs : List Tr) (hr : Rd K w h x xs) (hw : lw (wtI h x.i) xs ≤ 10000000) :
    Calls Try.prog 17 #[.iface (tyOf x.i) (.slice x.o x.n x.c)] w fun e w' => ∃ z, e = .returned (.bool z) ∧ (z = true ↔ bad w x) ∧ Below w.heap.size w w' := by
  obtain ⟨i, o, n, c⟩ := x
  obtain ⟨b, off, e1, -⟩ := hr.at
  simp only at e1
  subst e1
  have hcases : i = 0 ∨ i = 1 ∨ i = 2 := by have := hr.1; simp only at this; omega
  rcases hcases with rfl | rfl | rfl
  · have ht := ta_0 (.slice (some ⟨b, off, none⟩) n c)
    clear hr hw
    show Calls Try.prog 17 #[.iface 50 (.slice (some ⟨b, off, none⟩) n c)] w _
    go_enter Try.func17, Try.ntmps17
    go_wp2
    go_ret
    exact ⟨_, rfl, ⟨fun h => by simp at h, fun h => by have := h.1; simp at this⟩, Below.refl _ _⟩
  · have ht := ta_1 (.slice (some ⟨b, off, none⟩) n c)
    have HC := hide (contains_any w b off n c xs hr hw)
    clear hr hw
    show Calls Try.prog 17 #[.iface 75 (.slice (some ⟨b, off, none⟩) n c)] w _
    go_enter Try.func17, Try.ntmps17
    go_wp2_with fail
    refine HC.out.mono ?_
    rintro e w1 ⟨z, rfl, hiff, hb⟩
    have HB := hide hb
    have HQ := hide hiff
    clear hb hiff
    go_wp2
    go_ret
    exact ⟨_, rfl, HQ.out, HB.out⟩
  · have ht := ta_2 (.slice (some ⟨b, off, none⟩) n c)
    clear hr hw
    show Calls Try.prog 17 #[.iface 106 (.slice (some ⟨b, off, none⟩) n c)] w _
    go_enter Try.func17, Try.ntmps17
    go_wp2
    go_ret
    exact ⟨_, rfl, ⟨fun h => by simp at h, fun h => by have := h.1; simp at this⟩, Below.refl _ _⟩
end Go.Proofs.Ytnmofagmjcengaa.Br

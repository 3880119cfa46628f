/- The program's eachListIn: the lists of one expression, handed on (made by genCW.py). -/
import Derived.Test.YtgeckgdmkjddpaaQ12
namespace Go.Proofs.Ytgeckgdmkjddpaa.Br
open Go.RowKit Go.Shelf Go.Proofs.Ytgeckgdmkjddpaa.It
attribute [local go_sem] Oper.semAt_some
set_option linter.unusedVariables false

/-- What a round's yield does. -/
def Yds (l N : Nat) (J : List Ls → (Nat → Prop) → World → Prop) (Jx : List Ls → World → Prop) (ok : List Ls → Ls → Prop) : Prop :=
  ∀ m pre x Pr W1, J pre Pr W1 → ok pre x → N ≤ W1.heap.size → (∀ k, Pr k → k < W1.heap.size) → YieldAt Fence.wide m Try.prog l #[valL x] W1 fun e W' =>
    (e = .returned (.bool true) ∧ J (pre ++ [x]) Pr W' ∧ KeptP Pr W1 W') ∨ (e = .returned (.bool false) ∧ Jx (pre ++ [x]) W')
/-- .. with a box that is kept. -/
theorem Yds.box {l N : Nat} {J : List Ls → (Nat → Prop) → World → Prop} {Jx : List Ls → World → Prop} {ok : List Ls → Ls → Prop} (hY : Yds l N J Jx ok) {Pr : Nat → Prop} {b : Nat} {o : Obj} (hb : Pr b) {W0 : World} (hP0 : ∀ k, Pr k → k < W0.heap.size) (m : Nat) (pre : List Ls) (x : Ls) (W : World) (hj : J pre Pr W) (hx : ok pre x) (hN : N ≤ W.heap.size) (ho : W.heap[b]? = some o) (hk0 : KeptP Pr W0 W) :
    YieldAt Fence.wide m Try.prog l #[valL x] W fun e W' => (e = .returned (.bool true) ∧ J (pre ++ [x]) Pr W' ∧ N ≤ W'.heap.size ∧ W'.heap[b]? = some o ∧ KeptP Pr W0 W') ∨ (e = .returned (.bool false) ∧ Jx (pre ++ [x]) W') := by
  refine YieldAt.mono (hY m pre x Pr W hj hx hN fun k hk => Nat.lt_of_lt_of_le (hP0 k hk) hk0.1) fun e W' h => ?_
  rcases h with ⟨he, h1, h2⟩ | h
  · exact .inl ⟨he, h1, Nat.le_trans hN h2.1, (h2.2 b hb (Array.getElem?_eq_some_iff.1 ho).1).trans ho, hk0.trans h2⟩
  · exact .inr h

set_option maxHeartbeats 4000000 in
set_option maxRecDepth 100000 in
theorem each_in (n l N : Nat) (J : List Ls → (Nat → Prop) → World → Prop) (Jx : List Ls → World → Prop) (ok : List Ls → Ls → Prop) (hJ : Stab N J) (hY : Yds l N J Jx ok) (pre : List Ls) (Pr : Nat → Prop) (W : World) (v0 v1 v2 : Value) (o0 o1 o2 : Option Addr) (n0 n1 n2 c0 c1 c2 : Nat)
    (hm0 : n0 ≤ maxLen) (hm1 : n1 ≤ maxLen) (hm2 : n2 ≤ maxLen) (hok : ∀ p y q, one 0 o0 n0 c0 ++ one 1 o1 n1 c1 ++ one 2 o2 n2 c2 = p ++ y :: q → ok (pre ++ p) y) (hj : J pre Pr W) (hN : N ≤ W.heap.size) (hPl : ∀ k, Pr k → k < W.heap.size) :
    CallsIn Fence.wide n Try.prog 109 #[.agg #[v0, v1, v2, .slice o0 n0 c0, .slice o1 n1 c1, .slice o2 n2 c2], .func (.yield l) #[] #[]] W fun e W' =>
      (e = .returned (.bool true) ∧ J (pre ++ (one 0 o0 n0 c0 ++ one 1 o1 n1 c1 ++ one 2 o2 n2 c2)) Pr W' ∧ KeptP Pr W W') ∨ (e = .returned (.bool false) ∧ ∃ s, Jx s W') := by
  have hm0' : n0 ≤ 9223372036854775807 := hm0
  have hm1' : n1 ≤ 9223372036854775807 := hm1
  have hm2' : n2 ≤ 9223372036854775807 := hm2
  clear hm0 hm1 hm2
  obtain ⟨V, hV⟩ : ∃ V, W.alloc (.cells #[v0, v1, v2, .slice o0 n0 c0, .slice o1 n1 c1, .slice o2 n2 c2] 32) = V := ⟨_, rfl⟩
  have hbV : Below W.heap.size W V := by rw [← hV]; exact (Below.refl _ W).alloc (Nat.le_refl _) _
  have hx0 : V.heap[W.heap.size]? = some (.cells #[v0, v1, v2, .slice o0 n0 c0, .slice o1 n1 c1, .slice o2 n2 c2] 32 (0, 0)) := by rw [← hV]; exact heap_alloc_new W _
  have hj0 : J pre (fun k => Pr k ∨ k = W.heap.size) V := hJ _ _ _ _ _ (Chg.of hbV hN) hN (fun k hk => hk.imp id fun e => by omega) hj
  have hn0 : N ≤ V.heap.size := Nat.le_trans hN hbV.size
  have hP0 : ∀ k, (Pr k ∨ k = W.heap.size) → k < V.heap.size := fun k hk => by
    have h9 := heap_lt hx0
    rcases hk with hk | hk
    · have := hPl k hk
      omega
    · omega
  have HF : Hid (∀ s V', KeptP (fun k => Pr k ∨ k = W.heap.size) V V' → N ≤ V'.heap.size → J s (fun k => Pr k ∨ k = W.heap.size) V' → J s Pr V' ∧ KeptP Pr W V') := fun s V' hk hn h => ⟨hJ _ _ _ _ _ (Chg.refl _ _ _) hn (fun k hk => .inl (.inl hk)) h, (KeptP.of hbV).trans (hk.less fun k hk => .inl hk)⟩
  have hkk := KeptP.refl (fun k => Pr k ∨ k = W.heap.size) V
  have HOK := hide hok
  have HX0 := hide hx0
  have HJ0 := hide hj0
  have HN0 := hide hn0
  have HK0 := hide hkk
  have HYB : Hid (∀ (m : Nat) (pre : List Ls) (x : Ls) (U : World), J pre (fun k => Pr k ∨ k = W.heap.size) U → ok pre x → N ≤ U.heap.size → U.heap[W.heap.size]? = some (.cells #[v0, v1, v2, .slice o0 n0 c0, .slice o1 n1 c1, .slice o2 n2 c2] 32 (0, 0)) → KeptP (fun k => Pr k ∨ k = W.heap.size) V U →
      YieldAt Fence.wide m Try.prog l #[valL x] U fun e W' => (e = .returned (.bool true) ∧ J (pre ++ [x]) (fun k => Pr k ∨ k = W.heap.size) W' ∧ N ≤ W'.heap.size ∧ W'.heap[W.heap.size]? = some (.cells #[v0, v1, v2, .slice o0 n0 c0, .slice o1 n1 c1, .slice o2 n2 c2] 32 (0, 0)) ∧ KeptP (fun k => Pr k ∨ k = W.heap.size) V W') ∨ (e = .returned (.bool false) ∧ Jx (pre ++ [x]) W')) :=
    fun m pre x U h1 h2 h3 h4 h5 => hY.box (Pr := fun k => Pr k ∨ k = W.heap.size) (.inr rfl) hP0 m pre x U h1 h2 h3 h4 h5
  clear hok hx0 hj0 hn0 hbV hj hN hkk hY hJ hP0 hPl
  refine callsIn_of_wp Try.func109 rfl trivial ?_ rfl
  simp only [Try.ntmps109, List.size_toArray, List.length_cons, List.length_nil, Nat.reduceAdd, Nat.reduceSub, Array.replicate_succ, Array.replicate_zero, List.push_toArray, List.append_toArray, List.nil_append, List.cons_append]
  subst hV
  by_cases h0 : n0 = 0
  · by_cases h1 : n1 = 0
    · by_cases h2 : n2 = 0
      · have HKS : Hid (one 0 o0 n0 c0 ++ one 1 o1 n1 c1 ++ one 2 o2 n2 c2 = ([] : List Ls) ++ ([] : List Ls) ++ ([] : List Ls)) := by show _ = _; unfold one; simp only [if_pos h0, if_pos h1, if_pos h2]
        subst h0
        subst h1
        subst h2
        have b3 := cell_of HX0.out 3
        have b4 := cell_of HX0.out 4
        have b5 := cell_of HX0.out 5
        simp only [List.getElem?_toArray, List.getElem?_cons_succ, List.getElem?_cons_zero] at b3 b4 b5
        try gi_wp2
        try refine ⟨fun _ h => (by cases h), ?_⟩
        try gi_wp2
        try refine ⟨fun _ h => (by cases h), ?_⟩
        try gi_wp2
        try refine ⟨fun _ h => (by cases h), ?_⟩
        try gi_wp2
        go_ret
        refine .inl ⟨rfl, ?_⟩
        rw [HKS.out]
        simpa only [List.append_nil, List.append_assoc, List.cons_append, List.nil_append] using HF.out _ _ HK0.out HN0.out HJ0.out
      · have HKS : Hid (one 0 o0 n0 c0 ++ one 1 o1 n1 c1 ++ one 2 o2 n2 c2 = ([] : List Ls) ++ ([] : List Ls) ++ [(⟨2, o2, n2, c2⟩ : Ls)]) := by show _ = _; unfold one; simp only [if_pos h0, if_pos h1, if_neg h2]
        subst h0
        subst h1
        have z2 : (n2 : Int) ≠ 0 := by omega
        have zz2 : ((n2 : Int) == 0) = false := by simpa using z2
        have b3 := cell_of HX0.out 3
        have b4 := cell_of HX0.out 4
        have b5 := cell_of HX0.out 5
        simp only [List.getElem?_toArray, List.getElem?_cons_succ, List.getElem?_cons_zero] at b3 b4 b5
        obtain ⟨f0, t0, a0, d0, y0, r0⟩ := HYB.out (n - 1) _ ⟨2, o2, n2, c2⟩ _ HJ0.out (by have h9 := HOK.out [] ⟨2, o2, n2, c2⟩ [] (by rw [HKS.out]; rfl); simpa only [List.append_assoc, List.cons_append, List.nil_append, List.append_nil] using h9) HN0.out HX0.out HK0.out
        change (Instr.yield l #[.iface 205 (.slice o2 n2 c2)]).run Try.prog _ = _ at y0
        have R0 := hide r0
        clear r0
        try gi_wp2
        try refine ⟨fun _ h => (by cases h), ?_⟩
        try gi_wp2
        try refine ⟨fun _ h => (by cases h), ?_⟩
        try gi_wp2
        refine ⟨(fun h => by cases h), R0.out.mono ?_⟩
        rintro e V0 (⟨rfl, j9, n9, x9, k9⟩ | ⟨rfl, q9⟩)
        · have HJ1 := hide j9
          have HN1 := hide n9
          have HX1 := hide x9
          have HK1 := hide k9
          clear j9 n9 x9 k9 b3 b4 b5 y0 R0
          have b3 := cell_of HX1.out 3
          have b4 := cell_of HX1.out 4
          have b5 := cell_of HX1.out 5
          simp only [List.getElem?_toArray, List.getElem?_cons_succ, List.getElem?_cons_zero] at b3 b4 b5
          try gi_wp2
          go_ret
          refine .inl ⟨rfl, ?_⟩
          rw [HKS.out]
          simpa only [List.append_nil, List.append_assoc, List.cons_append, List.nil_append] using HF.out _ _ HK1.out HN1.out HJ1.out
        · have HQ := hide q9
          clear q9 b3 b4 b5 y0 R0
          try gi_wp2
          any_goals (first | (exact absurd ‹some undef = some (Value.bool _)› (by simp [undef])) | skip)
          go_ret
          exact .inr ⟨rfl, _, HQ.out⟩
    · by_cases h2 : n2 = 0
      · have HKS : Hid (one 0 o0 n0 c0 ++ one 1 o1 n1 c1 ++ one 2 o2 n2 c2 = ([] : List Ls) ++ [(⟨1, o1, n1, c1⟩ : Ls)] ++ ([] : List Ls)) := by show _ = _; unfold one; simp only [if_pos h0, if_neg h1, if_pos h2]
        subst h0
        have z1 : (n1 : Int) ≠ 0 := by omega
        have zz1 : ((n1 : Int) == 0) = false := by simpa using z1
        subst h2
        have b3 := cell_of HX0.out 3
        have b4 := cell_of HX0.out 4
        have b5 := cell_of HX0.out 5
        simp only [List.getElem?_toArray, List.getElem?_cons_succ, List.getElem?_cons_zero] at b3 b4 b5
        obtain ⟨f0, t0, a0, d0, y0, r0⟩ := HYB.out (n - 1) _ ⟨1, o1, n1, c1⟩ _ HJ0.out (by have h9 := HOK.out [] ⟨1, o1, n1, c1⟩ [] (by rw [HKS.out]; rfl); simpa only [List.append_assoc, List.cons_append, List.nil_append, List.append_nil] using h9) HN0.out HX0.out HK0.out
        change (Instr.yield l #[.iface 97 (.slice o1 n1 c1)]).run Try.prog _ = _ at y0
        have R0 := hide r0
        clear r0
        try gi_wp2
        try refine ⟨fun _ h => (by cases h), ?_⟩
        try gi_wp2
        refine ⟨(fun h => by cases h), R0.out.mono ?_⟩
        rintro e V0 (⟨rfl, j9, n9, x9, k9⟩ | ⟨rfl, q9⟩)
        · have HJ1 := hide j9
          have HN1 := hide n9
          have HX1 := hide x9
          have HK1 := hide k9
          clear j9 n9 x9 k9 b3 b4 b5 y0 R0
          have b3 := cell_of HX1.out 3
          have b4 := cell_of HX1.out 4
          have b5 := cell_of HX1.out 5
          simp only [List.getElem?_toArray, List.getElem?_cons_succ, List.getElem?_cons_zero] at b3 b4 b5
          try gi_wp2
          try refine ⟨fun _ h => (by cases h), ?_⟩
          try gi_wp2
          go_ret
          refine .inl ⟨rfl, ?_⟩
          rw [HKS.out]
          simpa only [List.append_nil, List.append_assoc, List.cons_append, List.nil_append] using HF.out _ _ HK1.out HN1.out HJ1.out
        · have HQ := hide q9
          clear q9 b3 b4 b5 y0 R0
          try gi_wp2
          try any_goals (exact absurd ‹some undef = some (Value.bool _)› (by simp [undef]))
          try refine ⟨fun _ h => (by cases h), ?_⟩
          try gi_wp2
          any_goals (first | (exact absurd ‹some undef = some (Value.bool _)› (by simp [undef])) | skip)
          go_ret
          exact .inr ⟨rfl, _, HQ.out⟩
      · have HKS : Hid (one 0 o0 n0 c0 ++ one 1 o1 n1 c1 ++ one 2 o2 n2 c2 = ([] : List Ls) ++ [(⟨1, o1, n1, c1⟩ : Ls)] ++ [(⟨2, o2, n2, c2⟩ : Ls)]) := by show _ = _; unfold one; simp only [if_pos h0, if_neg h1, if_neg h2]
        subst h0
        have z1 : (n1 : Int) ≠ 0 := by omega
        have zz1 : ((n1 : Int) == 0) = false := by simpa using z1
        have z2 : (n2 : Int) ≠ 0 := by omega
        have zz2 : ((n2 : Int) == 0) = false := by simpa using z2
        have b3 := cell_of HX0.out 3
        have b4 := cell_of HX0.out 4
        have b5 := cell_of HX0.out 5
        simp only [List.getElem?_toArray, List.getElem?_cons_succ, List.getElem?_cons_zero] at b3 b4 b5
        obtain ⟨f0, t0, a0, d0, y0, r0⟩ := HYB.out (n - 1) _ ⟨1, o1, n1, c1⟩ _ HJ0.out (by have h9 := HOK.out [] ⟨1, o1, n1, c1⟩ [⟨2, o2, n2, c2⟩] (by rw [HKS.out]; rfl); simpa only [List.append_assoc, List.cons_append, List.nil_append, List.append_nil] using h9) HN0.out HX0.out HK0.out
        change (Instr.yield l #[.iface 97 (.slice o1 n1 c1)]).run Try.prog _ = _ at y0
        have R0 := hide r0
        clear r0
        try gi_wp2
        try refine ⟨fun _ h => (by cases h), ?_⟩
        try gi_wp2
        refine ⟨(fun h => by cases h), R0.out.mono ?_⟩
        rintro e V0 (⟨rfl, j9, n9, x9, k9⟩ | ⟨rfl, q9⟩)
        · have HJ1 := hide j9
          have HN1 := hide n9
          have HX1 := hide x9
          have HK1 := hide k9
          clear j9 n9 x9 k9 b3 b4 b5 y0 R0
          have b3 := cell_of HX1.out 3
          have b4 := cell_of HX1.out 4
          have b5 := cell_of HX1.out 5
          simp only [List.getElem?_toArray, List.getElem?_cons_succ, List.getElem?_cons_zero] at b3 b4 b5
          obtain ⟨f1, t1, a1, d1, y1, r1⟩ := HYB.out (n - 1) _ ⟨2, o2, n2, c2⟩ _ HJ1.out (by have h9 := HOK.out [⟨1, o1, n1, c1⟩] ⟨2, o2, n2, c2⟩ [] (by rw [HKS.out]; rfl); simpa only [List.append_assoc, List.cons_append, List.nil_append, List.append_nil] using h9) HN1.out HX1.out HK1.out
          change (Instr.yield l #[.iface 205 (.slice o2 n2 c2)]).run Try.prog _ = _ at y1
          have R1 := hide r1
          clear r1
          try gi_wp2
          refine ⟨(fun h => by cases h), R1.out.mono ?_⟩
          rintro e V1 (⟨rfl, j9, n9, x9, k9⟩ | ⟨rfl, q9⟩)
          · have HJ2 := hide j9
            have HN2 := hide n9
            have HX2 := hide x9
            have HK2 := hide k9
            clear j9 n9 x9 k9 b3 b4 b5 y1 R1
            have b3 := cell_of HX2.out 3
            have b4 := cell_of HX2.out 4
            have b5 := cell_of HX2.out 5
            simp only [List.getElem?_toArray, List.getElem?_cons_succ, List.getElem?_cons_zero] at b3 b4 b5
            try gi_wp2
            go_ret
            refine .inl ⟨rfl, ?_⟩
            rw [HKS.out]
            simpa only [List.append_nil, List.append_assoc, List.cons_append, List.nil_append] using HF.out _ _ HK2.out HN2.out HJ2.out
          · have HQ := hide q9
            clear q9 b3 b4 b5 y1 R1
            try gi_wp2
            any_goals (first | (exact absurd ‹some undef = some (Value.bool _)› (by simp [undef])) | skip)
            go_ret
            exact .inr ⟨rfl, _, HQ.out⟩
        · have HQ := hide q9
          clear q9 b3 b4 b5 y0 R0
          try gi_wp2
          try any_goals (exact absurd ‹some undef = some (Value.bool _)› (by simp [undef]))
          try refine ⟨fun _ h => (by cases h), ?_⟩
          try gi_wp2
          any_goals (first | (exact absurd ‹some undef = some (Value.bool _)› (by simp [undef])) | skip)
          go_ret
          exact .inr ⟨rfl, _, HQ.out⟩
  · by_cases h1 : n1 = 0
    · by_cases h2 : n2 = 0
      · have HKS : Hid (one 0 o0 n0 c0 ++ one 1 o1 n1 c1 ++ one 2 o2 n2 c2 = [(⟨0, o0, n0, c0⟩ : Ls)] ++ ([] : List Ls) ++ ([] : List Ls)) := by show _ = _; unfold one; simp only [if_neg h0, if_pos h1, if_pos h2]
        have z0 : (n0 : Int) ≠ 0 := by omega
        have zz0 : ((n0 : Int) == 0) = false := by simpa using z0
        subst h1
        subst h2
        have b3 := cell_of HX0.out 3
        have b4 := cell_of HX0.out 4
        have b5 := cell_of HX0.out 5
        simp only [List.getElem?_toArray, List.getElem?_cons_succ, List.getElem?_cons_zero] at b3 b4 b5
        obtain ⟨f0, t0, a0, d0, y0, r0⟩ := HYB.out (n - 1) _ ⟨0, o0, n0, c0⟩ _ HJ0.out (by have h9 := HOK.out [] ⟨0, o0, n0, c0⟩ [] (by rw [HKS.out]; rfl); simpa only [List.append_assoc, List.cons_append, List.nil_append, List.append_nil] using h9) HN0.out HX0.out HK0.out
        change (Instr.yield l #[.iface 58 (.slice o0 n0 c0)]).run Try.prog _ = _ at y0
        have R0 := hide r0
        clear r0
        try gi_wp2
        refine ⟨(fun h => by cases h), R0.out.mono ?_⟩
        rintro e V0 (⟨rfl, j9, n9, x9, k9⟩ | ⟨rfl, q9⟩)
        · have HJ1 := hide j9
          have HN1 := hide n9
          have HX1 := hide x9
          have HK1 := hide k9
          clear j9 n9 x9 k9 b3 b4 b5 y0 R0
          have b3 := cell_of HX1.out 3
          have b4 := cell_of HX1.out 4
          have b5 := cell_of HX1.out 5
          simp only [List.getElem?_toArray, List.getElem?_cons_succ, List.getElem?_cons_zero] at b3 b4 b5
          try gi_wp2
          try refine ⟨fun _ h => (by cases h), ?_⟩
          try gi_wp2
          try refine ⟨fun _ h => (by cases h), ?_⟩
          try gi_wp2
          go_ret
          refine .inl ⟨rfl, ?_⟩
          rw [HKS.out]
          simpa only [List.append_nil, List.append_assoc, List.cons_append, List.nil_append] using HF.out _ _ HK1.out HN1.out HJ1.out
        · have HQ := hide q9
          clear q9 b3 b4 b5 y0 R0
          try gi_wp2
          try any_goals (exact absurd ‹some undef = some (Value.bool _)› (by simp [undef]))
          try refine ⟨fun _ h => (by cases h), ?_⟩
          try gi_wp2
          try any_goals (exact absurd ‹some undef = some (Value.bool _)› (by simp [undef]))
          try refine ⟨fun _ h => (by cases h), ?_⟩
          try gi_wp2
          any_goals (first | (exact absurd ‹some undef = some (Value.bool _)› (by simp [undef])) | skip)
          go_ret
          exact .inr ⟨rfl, _, HQ.out⟩
      · have HKS : Hid (one 0 o0 n0 c0 ++ one 1 o1 n1 c1 ++ one 2 o2 n2 c2 = [(⟨0, o0, n0, c0⟩ : Ls)] ++ ([] : List Ls) ++ [(⟨2, o2, n2, c2⟩ : Ls)]) := by show _ = _; unfold one; simp only [if_neg h0, if_pos h1, if_neg h2]
        have z0 : (n0 : Int) ≠ 0 := by omega
        have zz0 : ((n0 : Int) == 0) = false := by simpa using z0
        subst h1
        have z2 : (n2 : Int) ≠ 0 := by omega
        have zz2 : ((n2 : Int) == 0) = false := by simpa using z2
        have b3 := cell_of HX0.out 3
        have b4 := cell_of HX0.out 4
        have b5 := cell_of HX0.out 5
        simp only [List.getElem?_toArray, List.getElem?_cons_succ, List.getElem?_cons_zero] at b3 b4 b5
        obtain ⟨f0, t0, a0, d0, y0, r0⟩ := HYB.out (n - 1) _ ⟨0, o0, n0, c0⟩ _ HJ0.out (by have h9 := HOK.out [] ⟨0, o0, n0, c0⟩ [⟨2, o2, n2, c2⟩] (by rw [HKS.out]; rfl); simpa only [List.append_assoc, List.cons_append, List.nil_append, List.append_nil] using h9) HN0.out HX0.out HK0.out
        change (Instr.yield l #[.iface 58 (.slice o0 n0 c0)]).run Try.prog _ = _ at y0
        have R0 := hide r0
        clear r0
        try gi_wp2
        refine ⟨(fun h => by cases h), R0.out.mono ?_⟩
        rintro e V0 (⟨rfl, j9, n9, x9, k9⟩ | ⟨rfl, q9⟩)
        · have HJ1 := hide j9
          have HN1 := hide n9
          have HX1 := hide x9
          have HK1 := hide k9
          clear j9 n9 x9 k9 b3 b4 b5 y0 R0
          have b3 := cell_of HX1.out 3
          have b4 := cell_of HX1.out 4
          have b5 := cell_of HX1.out 5
          simp only [List.getElem?_toArray, List.getElem?_cons_succ, List.getElem?_cons_zero] at b3 b4 b5
          obtain ⟨f1, t1, a1, d1, y1, r1⟩ := HYB.out (n - 1) _ ⟨2, o2, n2, c2⟩ _ HJ1.out (by have h9 := HOK.out [⟨0, o0, n0, c0⟩] ⟨2, o2, n2, c2⟩ [] (by rw [HKS.out]; rfl); simpa only [List.append_assoc, List.cons_append, List.nil_append, List.append_nil] using h9) HN1.out HX1.out HK1.out
          change (Instr.yield l #[.iface 205 (.slice o2 n2 c2)]).run Try.prog _ = _ at y1
          have R1 := hide r1
          clear r1
          try gi_wp2
          try refine ⟨fun _ h => (by cases h), ?_⟩
          try gi_wp2
          refine ⟨(fun h => by cases h), R1.out.mono ?_⟩
          rintro e V1 (⟨rfl, j9, n9, x9, k9⟩ | ⟨rfl, q9⟩)
          · have HJ2 := hide j9
            have HN2 := hide n9
            have HX2 := hide x9
            have HK2 := hide k9
            clear j9 n9 x9 k9 b3 b4 b5 y1 R1
            have b3 := cell_of HX2.out 3
            have b4 := cell_of HX2.out 4
            have b5 := cell_of HX2.out 5
            simp only [List.getElem?_toArray, List.getElem?_cons_succ, List.getElem?_cons_zero] at b3 b4 b5
            try gi_wp2
            go_ret
            refine .inl ⟨rfl, ?_⟩
            rw [HKS.out]
            simpa only [List.append_nil, List.append_assoc, List.cons_append, List.nil_append] using HF.out _ _ HK2.out HN2.out HJ2.out
          · have HQ := hide q9
            clear q9 b3 b4 b5 y1 R1
            try gi_wp2
            any_goals (first | (exact absurd ‹some undef = some (Value.bool _)› (by simp [undef])) | skip)
            go_ret
            exact .inr ⟨rfl, _, HQ.out⟩
        · have HQ := hide q9
          clear q9 b3 b4 b5 y0 R0
          try gi_wp2
          try any_goals (exact absurd ‹some undef = some (Value.bool _)› (by simp [undef]))
          try refine ⟨fun _ h => (by cases h), ?_⟩
          try gi_wp2
          try any_goals (exact absurd ‹some undef = some (Value.bool _)› (by simp [undef]))
          try refine ⟨fun _ h => (by cases h), ?_⟩
          try gi_wp2
          any_goals (first | (exact absurd ‹some undef = some (Value.bool _)› (by simp [undef])) | skip)
          go_ret
          exact .inr ⟨rfl, _, HQ.out⟩
    · by_cases h2 : n2 = 0
      · have HKS : Hid (one 0 o0 n0 c0 ++ one 1 o1 n1 c1 ++ one 2 o2 n2 c2 = [(⟨0, o0, n0, c0⟩ : Ls)] ++ [(⟨1, o1, n1, c1⟩ : Ls)] ++ ([] : List Ls)) := by show _ = _; unfold one; simp only [if_neg h0, if_neg h1, if_pos h2]
        have z0 : (n0 : Int) ≠ 0 := by omega
        have zz0 : ((n0 : Int) == 0) = false := by simpa using z0
        have z1 : (n1 : Int) ≠ 0 := by omega
        have zz1 : ((n1 : Int) == 0) = false := by simpa using z1
        subst h2
        have b3 := cell_of HX0.out 3
        have b4 := cell_of HX0.out 4
        have b5 := cell_of HX0.out 5
        simp only [List.getElem?_toArray, List.getElem?_cons_succ, List.getElem?_cons_zero] at b3 b4 b5
        obtain ⟨f0, t0, a0, d0, y0, r0⟩ := HYB.out (n - 1) _ ⟨0, o0, n0, c0⟩ _ HJ0.out (by have h9 := HOK.out [] ⟨0, o0, n0, c0⟩ [⟨1, o1, n1, c1⟩] (by rw [HKS.out]; rfl); simpa only [List.append_assoc, List.cons_append, List.nil_append, List.append_nil] using h9) HN0.out HX0.out HK0.out
        change (Instr.yield l #[.iface 58 (.slice o0 n0 c0)]).run Try.prog _ = _ at y0
        have R0 := hide r0
        clear r0
        try gi_wp2
        refine ⟨(fun h => by cases h), R0.out.mono ?_⟩
        rintro e V0 (⟨rfl, j9, n9, x9, k9⟩ | ⟨rfl, q9⟩)
        · have HJ1 := hide j9
          have HN1 := hide n9
          have HX1 := hide x9
          have HK1 := hide k9
          clear j9 n9 x9 k9 b3 b4 b5 y0 R0
          have b3 := cell_of HX1.out 3
          have b4 := cell_of HX1.out 4
          have b5 := cell_of HX1.out 5
          simp only [List.getElem?_toArray, List.getElem?_cons_succ, List.getElem?_cons_zero] at b3 b4 b5
          obtain ⟨f1, t1, a1, d1, y1, r1⟩ := HYB.out (n - 1) _ ⟨1, o1, n1, c1⟩ _ HJ1.out (by have h9 := HOK.out [⟨0, o0, n0, c0⟩] ⟨1, o1, n1, c1⟩ [] (by rw [HKS.out]; rfl); simpa only [List.append_assoc, List.cons_append, List.nil_append, List.append_nil] using h9) HN1.out HX1.out HK1.out
          change (Instr.yield l #[.iface 97 (.slice o1 n1 c1)]).run Try.prog _ = _ at y1
          have R1 := hide r1
          clear r1
          try gi_wp2
          refine ⟨(fun h => by cases h), R1.out.mono ?_⟩
          rintro e V1 (⟨rfl, j9, n9, x9, k9⟩ | ⟨rfl, q9⟩)
          · have HJ2 := hide j9
            have HN2 := hide n9
            have HX2 := hide x9
            have HK2 := hide k9
            clear j9 n9 x9 k9 b3 b4 b5 y1 R1
            have b3 := cell_of HX2.out 3
            have b4 := cell_of HX2.out 4
            have b5 := cell_of HX2.out 5
            simp only [List.getElem?_toArray, List.getElem?_cons_succ, List.getElem?_cons_zero] at b3 b4 b5
            try gi_wp2
            try refine ⟨fun _ h => (by cases h), ?_⟩
            try gi_wp2
            go_ret
            refine .inl ⟨rfl, ?_⟩
            rw [HKS.out]
            simpa only [List.append_nil, List.append_assoc, List.cons_append, List.nil_append] using HF.out _ _ HK2.out HN2.out HJ2.out
          · have HQ := hide q9
            clear q9 b3 b4 b5 y1 R1
            try gi_wp2
            try any_goals (exact absurd ‹some undef = some (Value.bool _)› (by simp [undef]))
            try refine ⟨fun _ h => (by cases h), ?_⟩
            try gi_wp2
            any_goals (first | (exact absurd ‹some undef = some (Value.bool _)› (by simp [undef])) | skip)
            go_ret
            exact .inr ⟨rfl, _, HQ.out⟩
        · have HQ := hide q9
          clear q9 b3 b4 b5 y0 R0
          try gi_wp2
          try any_goals (exact absurd ‹some undef = some (Value.bool _)› (by simp [undef]))
          try refine ⟨fun _ h => (by cases h), ?_⟩
          try gi_wp2
          try any_goals (exact absurd ‹some undef = some (Value.bool _)› (by simp [undef]))
          try refine ⟨fun _ h => (by cases h), ?_⟩
          try gi_wp2
          any_goals (first | (exact absurd ‹some undef = some (Value.bool _)› (by simp [undef])) | skip)
          go_ret
          exact .inr ⟨rfl, _, HQ.out⟩
      · have HKS : Hid (one 0 o0 n0 c0 ++ one 1 o1 n1 c1 ++ one 2 o2 n2 c2 = [(⟨0, o0, n0, c0⟩ : Ls)] ++ [(⟨1, o1, n1, c1⟩ : Ls)] ++ [(⟨2, o2, n2, c2⟩ : Ls)]) := by show _ = _; unfold one; simp only [if_neg h0, if_neg h1, if_neg h2]
        have z0 : (n0 : Int) ≠ 0 := by omega
        have zz0 : ((n0 : Int) == 0) = false := by simpa using z0
        have z1 : (n1 : Int) ≠ 0 := by omega
        have zz1 : ((n1 : Int) == 0) = false := by simpa using z1
        have z2 : (n2 : Int) ≠ 0 := by omega
        have zz2 : ((n2 : Int) == 0) = false := by simpa using z2
        have b3 := cell_of HX0.out 3
        have b4 := cell_of HX0.out 4
        have b5 := cell_of HX0.out 5
        simp only [List.getElem?_toArray, List.getElem?_cons_succ, List.getElem?_cons_zero] at b3 b4 b5
        obtain ⟨f0, t0, a0, d0, y0, r0⟩ := HYB.out (n - 1) _ ⟨0, o0, n0, c0⟩ _ HJ0.out (by have h9 := HOK.out [] ⟨0, o0, n0, c0⟩ [⟨1, o1, n1, c1⟩, ⟨2, o2, n2, c2⟩] (by rw [HKS.out]; rfl); simpa only [List.append_assoc, List.cons_append, List.nil_append, List.append_nil] using h9) HN0.out HX0.out HK0.out
        change (Instr.yield l #[.iface 58 (.slice o0 n0 c0)]).run Try.prog _ = _ at y0
        have R0 := hide r0
        clear r0
        try gi_wp2
        refine ⟨(fun h => by cases h), R0.out.mono ?_⟩
        rintro e V0 (⟨rfl, j9, n9, x9, k9⟩ | ⟨rfl, q9⟩)
        · have HJ1 := hide j9
          have HN1 := hide n9
          have HX1 := hide x9
          have HK1 := hide k9
          clear j9 n9 x9 k9 b3 b4 b5 y0 R0
          have b3 := cell_of HX1.out 3
          have b4 := cell_of HX1.out 4
          have b5 := cell_of HX1.out 5
          simp only [List.getElem?_toArray, List.getElem?_cons_succ, List.getElem?_cons_zero] at b3 b4 b5
          obtain ⟨f1, t1, a1, d1, y1, r1⟩ := HYB.out (n - 1) _ ⟨1, o1, n1, c1⟩ _ HJ1.out (by have h9 := HOK.out [⟨0, o0, n0, c0⟩] ⟨1, o1, n1, c1⟩ [⟨2, o2, n2, c2⟩] (by rw [HKS.out]; rfl); simpa only [List.append_assoc, List.cons_append, List.nil_append, List.append_nil] using h9) HN1.out HX1.out HK1.out
          change (Instr.yield l #[.iface 97 (.slice o1 n1 c1)]).run Try.prog _ = _ at y1
          have R1 := hide r1
          clear r1
          try gi_wp2
          refine ⟨(fun h => by cases h), R1.out.mono ?_⟩
          rintro e V1 (⟨rfl, j9, n9, x9, k9⟩ | ⟨rfl, q9⟩)
          · have HJ2 := hide j9
            have HN2 := hide n9
            have HX2 := hide x9
            have HK2 := hide k9
            clear j9 n9 x9 k9 b3 b4 b5 y1 R1
            have b3 := cell_of HX2.out 3
            have b4 := cell_of HX2.out 4
            have b5 := cell_of HX2.out 5
            simp only [List.getElem?_toArray, List.getElem?_cons_succ, List.getElem?_cons_zero] at b3 b4 b5
            obtain ⟨f2, t2, a2, d2, y2, r2⟩ := HYB.out (n - 1) _ ⟨2, o2, n2, c2⟩ _ HJ2.out (by have h9 := HOK.out [⟨0, o0, n0, c0⟩, ⟨1, o1, n1, c1⟩] ⟨2, o2, n2, c2⟩ [] (by rw [HKS.out]; rfl); simpa only [List.append_assoc, List.cons_append, List.nil_append, List.append_nil] using h9) HN2.out HX2.out HK2.out
            change (Instr.yield l #[.iface 205 (.slice o2 n2 c2)]).run Try.prog _ = _ at y2
            have R2 := hide r2
            clear r2
            try gi_wp2
            refine ⟨(fun h => by cases h), R2.out.mono ?_⟩
            rintro e V2 (⟨rfl, j9, n9, x9, k9⟩ | ⟨rfl, q9⟩)
            · have HJ3 := hide j9
              have HN3 := hide n9
              have HX3 := hide x9
              have HK3 := hide k9
              clear j9 n9 x9 k9 b3 b4 b5 y2 R2
              have b3 := cell_of HX3.out 3
              have b4 := cell_of HX3.out 4
              have b5 := cell_of HX3.out 5
              simp only [List.getElem?_toArray, List.getElem?_cons_succ, List.getElem?_cons_zero] at b3 b4 b5
              try gi_wp2
              go_ret
              refine .inl ⟨rfl, ?_⟩
              rw [HKS.out]
              simpa only [List.append_nil, List.append_assoc, List.cons_append, List.nil_append] using HF.out _ _ HK3.out HN3.out HJ3.out
            · have HQ := hide q9
              clear q9 b3 b4 b5 y2 R2
              try gi_wp2
              any_goals (first | (exact absurd ‹some undef = some (Value.bool _)› (by simp [undef])) | skip)
              go_ret
              exact .inr ⟨rfl, _, HQ.out⟩
          · have HQ := hide q9
            clear q9 b3 b4 b5 y1 R1
            try gi_wp2
            try any_goals (exact absurd ‹some undef = some (Value.bool _)› (by simp [undef]))
            try refine ⟨fun _ h => (by cases h), ?_⟩
            try gi_wp2
            any_goals (first | (exact absurd ‹some undef = some (Value.bool _)› (by simp [undef])) | skip)
            go_ret
            exact .inr ⟨rfl, _, HQ.out⟩
        · have HQ := hide q9
          clear q9 b3 b4 b5 y0 R0
          try gi_wp2
          try any_goals (exact absurd ‹some undef = some (Value.bool _)› (by simp [undef]))
          try refine ⟨fun _ h => (by cases h), ?_⟩
          try gi_wp2
          try any_goals (exact absurd ‹some undef = some (Value.bool _)› (by simp [undef]))
          try refine ⟨fun _ h => (by cases h), ?_⟩
          try gi_wp2
          any_goals (first | (exact absurd ‹some undef = some (Value.bool _)› (by simp [undef])) | skip)
          go_ret
          exact .inr ⟨rfl, _, HQ.out⟩
end Go.Proofs.Ytgeckgdmkjddpaa.Br

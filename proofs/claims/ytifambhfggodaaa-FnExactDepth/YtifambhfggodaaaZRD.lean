/- The law's comparison of types, makers, datas and programs that are the same. -/
import Derived.Test.YtifambhfggodaaaZRC
namespace Go.Proofs.Ytifambhfggodaaa
open Go.ChangeShapes Go.WideShapes Go.ChangeAt Go.RowKit

def EqTy (h : Nat) : Prop := ∀ (x : Tr) (ca cb : List Value) (w : World), tyR AllK w h x ca → tyR AllK w h x cb → Calls Try.prog 8 #[.agg ca.toArray, .agg cb.toArray] w fun e w' => e = .returned (.bool true) ∧ Below w.heap.size w w'
set_option maxHeartbeats 1000000 in
set_option maxRecDepth 100000 in
theorem eqTyS_of {h : Nat} (hE : EqTy h) (xs : List Tr) (hl : xs.length ≤ maxLen) (oa ob : Option Addr) (ca cb : Nat) (w : World) (ha : RowOf AllK w (tyR AllK w h) 4 oa xs) (hb : RowOf AllK w (tyR AllK w h) 4 ob xs) :
    Calls Try.prog 14 #[.slice oa xs.length ca, .slice ob xs.length cb] w fun e w' => e = .returned (.bool true) ∧ Below w.heap.size w w' := by
  have HA := hide ha
  have HB := hide hb
  have HE := hide hE
  have hl2 : xs.length ≤ 9223372036854775807 := hl
  clear ha hb hE hl
  go_enter Try.func14, Try.ntmps14
  go_wp2
  go_loopw [5] (fun t wr => ∃ k : Nat, k ≤ xs.length ∧ t = .int .i64 k ∧ Below w.heap.size w wr) (fun t _ => xs.length - (intOf t).toNat)
  case atStart => exact ⟨0, Nat.zero_le _, rfl, Below.refl _ _⟩
  case round =>
    obtain ⟨i, hi, rfl, hbw⟩ := hrel
    have HBW := hide hbw
    clear hbw
    by_cases hlt : i < xs.length
    · have hne : xs ≠ [] := by intro e; rw [e] at hlt; simp at hlt
      obtain ⟨x, hx⟩ : ∃ x, xs[i]? = some x := ⟨xs[i], List.getElem?_eq_getElem hlt⟩
      obtain ⟨ba, fa, ea, -, -, hA⟩ := (HA.out.later HBW.out (tyR_later HBW.out h)) hne
      obtain ⟨bb, fb, eb, -, -, hB⟩ := (HB.out.later HBW.out (tyR_later HBW.out h)) hne
      subst ea eb
      obtain ⟨va, lA, hkA, rA⟩ := hA i x hx
      obtain ⟨vb, lB, hkB, rB⟩ := hB i x hx
      obtain ⟨v0, v1, v2, v3, rfl⟩ := four_of lA
      obtain ⟨u0, u1, u2, u3, rfl⟩ := four_of lB
      have a0 := hkA 0 v0 rfl
      have b0 := hkB 0 u0 rfl
      have a1 := hkA 1 v1 rfl
      have b1 := hkB 1 u1 rfl
      have a2 := hkA 2 v2 rfl
      have b2 := hkB 2 u2 rfl
      have a3 := hkA 3 v3 rfl
      have b3 := hkB 3 u3 rfl
      rw [Nat.add_zero] at a0 b0
      have RA := hide rA
      have RB := hide rB
      clear hx hA hB hne hkA hkB rA rB lA lB
      have hlt2 : (i : Int) < xs.length := by omega
      go_wp2
      go_region_with ((go_at_call 8; refine (HE.out x [v0, v1, v2, v3] [u0, u1, u2, u3] _ (tyR_later (Below.refl _ _).drew h _ _ RA.out) (tyR_later (Below.refl _ _).drew h _ _ RB.out)).mono ?_; rintro e w1 ⟨rfl, hb1⟩))
      all_goals
        have HB1 := hide hb1
        clear hb1
        go_wp2
        go_roundw
        case rel => exact ⟨i + 1, by omega, by go_num, HBW.out.trans (((Below.refl _ _).drew.trans HB1.out).mono HBW.out.size)⟩
        case measure => simp [intOf]; omega
    · go_wp2
      go_ret
      exact ⟨rfl, HBW.out⟩

set_option maxHeartbeats 1000000 in
set_option maxRecDepth 100000 in
theorem eqTy_step {h : Nat} (i1 : EqTy h) : EqTy (h + 1) := by
  intro x ca cb w hra hrb
  obtain ⟨-, -, -, o1, c1, rfl, hs, hl, q1⟩ := hra
  obtain ⟨-, -, -, p1, d1, rfl, -, -, r1⟩ := hrb
  have I1 := hide i1
  have Q1 := hide q1
  have R1 := hide r1
  have HL := hide hl.1
  clear i1 q1 r1 hs hl
  have HX0 : Hid (((w.alloc (.cells #[.int .i64 x.k, .string x.s, .int .i64 x.n, .slice o1 x.l.length c1] 29)).alloc (.cells #[.int .i64 x.k, .string x.s, .int .i64 x.n, .slice p1 x.l.length d1] 29)).heap[w.heap.size]? = some (.cells #[.int .i64 x.k, .string x.s, .int .i64 x.n, .slice o1 x.l.length c1] 29 (0, 0))) := (Below.heap_alloc _ _ _ (by simp)).trans (heap_alloc_new w _)
  have HY0 : Hid (((w.alloc (.cells #[.int .i64 x.k, .string x.s, .int .i64 x.n, .slice o1 x.l.length c1] 29)).alloc (.cells #[.int .i64 x.k, .string x.s, .int .i64 x.n, .slice p1 x.l.length d1] 29)).heap[w.heap.size + 1]? = some (.cells #[.int .i64 x.k, .string x.s, .int .i64 x.n, .slice p1 x.l.length d1] 29 (0, 0))) := heap_alloc2_new w _ _
  have HB0 : Hid (Below w.heap.size w ((w.alloc (.cells #[.int .i64 x.k, .string x.s, .int .i64 x.n, .slice o1 x.l.length c1] 29)).alloc (.cells #[.int .i64 x.k, .string x.s, .int .i64 x.n, .slice p1 x.l.length d1] 29))) := ((Below.refl _ w).alloc (Nat.le_refl _) _).alloc (by simp) _
  have hz0 : w.heap.size + 2 ≤ ((w.alloc (.cells #[.int .i64 x.k, .string x.s, .int .i64 x.n, .slice o1 x.l.length c1] 29)).alloc (.cells #[.int .i64 x.k, .string x.s, .int .i64 x.n, .slice p1 x.l.length d1] 29)).heap.size := by simp
  go_enter Try.func8, Try.ntmps8
  go_wp2_with fail
  refine (eqTyS_of I1.out x.l HL.out o1 p1 c1 d1 _ (Q1.out.later HB0.out (tyR_later HB0.out h)) (R1.out.later HB0.out (tyR_later HB0.out h))).mono ?_
  rintro e w1 ⟨rfl, hb⟩
  have HB1 := hide (HB0.out.trans (hb.mono HB0.out.size))
  have HX1 := hide ((hb.block w.heap.size (by omega)).trans HX0.out)
  have HY1 := hide ((hb.block (w.heap.size + 1) (by omega)).trans HY0.out)
  have hz1 : w.heap.size + 2 ≤ w1.heap.size := Nat.le_trans hz0 hb.size
  clear hb
  go_wp2
  go_ret
  exact ⟨rfl, HB1.out⟩

theorem eqTy_all (h : Nat) : EqTy h := by
  induction h with
  | zero => exact fun _ _ _ _ hr => hr.elim
  | succ h ih => exact eqTy_step ih

end Go.Proofs.Ytifambhfggodaaa

/- The law's comparison of trees that are the same. -/
import Derived.Test.YtgeckgdmkjddpaaXE
namespace Go.Proofs.Ytgeckgdmkjddpaa
open Go.ChangeShapes Go.WideShapes Go.ChangeAt Go.RowKit

def EqEx (h : Nat) : Prop := ∀ (x : Tr) (ca cb : List Value) (w : World), (reads AllK w h).ex x ca → (reads AllK w h).ex x cb → Calls Try.prog 9 #[.agg ca.toArray, .agg cb.toArray] w fun e w' => e = .returned (.bool true) ∧ Below w.heap.size w w'
def EqDe (h : Nat) : Prop := ∀ (x : Tr) (ca cb : List Value) (w : World), (reads AllK w h).de x ca → (reads AllK w h).de x cb → Calls Try.prog 16 #[.agg ca.toArray, .agg cb.toArray] w fun e w' => e = .returned (.bool true) ∧ Below w.heap.size w w'
def EqAl (h : Nat) : Prop := ∀ (x : Tr) (ca cb : List Value) (w : World), (reads AllK w h).al x ca → (reads AllK w h).al x cb → Calls Try.prog 64 #[.agg ca.toArray, .agg cb.toArray] w fun e w' => e = .returned (.bool true) ∧ Below w.heap.size w w'

set_option maxHeartbeats 1000000 in
set_option maxRecDepth 100000 in
theorem eqStringS_same {K L : Nat → Prop} (xs : List ByteArray) (hl : xs.length ≤ maxLen) (oa ob : Option Addr) (ca cb : Nat) (w : World) (ha : RowOf K w strR 1 oa xs) (hb : RowOf L w strR 1 ob xs) :
    Calls Try.prog 43 #[.slice oa xs.length ca, .slice ob xs.length cb] w fun e w' => e = .returned (.bool true) ∧ Below w.heap.size w w' := by
  have HA := hide ha
  have HB := hide hb
  have hl2 : xs.length ≤ 9223372036854775807 := hl
  clear ha hb hl
  go_enter Try.func43, Try.ntmps43
  go_wp2
  go_loopw [5] (fun t wr => ∃ k : Nat, k ≤ xs.length ∧ t = .int .i64 k ∧ Below w.heap.size w wr) (fun t _ => xs.length - (intOf t).toNat)
  case atStart => exact ⟨0, Nat.zero_le _, rfl, Below.refl _ _⟩
  case round =>
    obtain ⟨i, hi, rfl, hbw⟩ := hrel
    have HBW := hide hbw
    clear hbw
    by_cases hlt : i < xs.length
    · have hne : xs ≠ [] := by intro e; rw [e] at hlt; simp at hlt
      obtain ⟨x, hx⟩ : ∃ x, xs[i]? = some x := ⟨xs[i], List.getElem?_eq_getElem hlt⟩
      obtain ⟨ba, fa, ea, -, -, hA⟩ := (HA.out.later HBW.out fun _ _ h => h) hne
      obtain ⟨bb, fb, eb, -, -, hB⟩ := (HB.out.later HBW.out fun _ _ h => h) hne
      subst ea eb
      obtain ⟨_, -, hkA, rfl, -⟩ := hA i x hx
      obtain ⟨_, -, hkB, rfl, -⟩ := hB i x hx
      have a0 := hkA 0 _ rfl
      have b0 := hkB 0 _ rfl
      rw [Nat.mul_one, Nat.add_zero] at a0 b0
      clear hx hA hB hne hkA hkB
      have hlt2 : (i : Int) < xs.length := by omega
      go_wp2
      go_region
      go_wp2
      go_roundw
      case rel => exact ⟨i + 1, by omega, by go_num, HBW.out.trans ((Below.refl _ _).drew.mono HBW.out.size)⟩
      case measure => simp [intOf]; omega
    · go_wp2
      go_ret
      exact ⟨rfl, HBW.out⟩

set_option maxHeartbeats 1000000 in
set_option maxRecDepth 100000 in
theorem eqExpS_of {h : Nat} (hE : EqEx h) (xs : List Tr) (hl : xs.length ≤ maxLen) (oa ob : Option Addr) (ca cb : Nat) (w : World) (ha : RowOf AllK w (reads AllK w h).ex 6 oa xs) (hb : RowOf AllK w (reads AllK w h).ex 6 ob xs) :
    Calls Try.prog 31 #[.slice oa xs.length ca, .slice ob xs.length cb] w fun e w' => e = .returned (.bool true) ∧ Below w.heap.size w w' := by
  have HA := hide ha
  have HB := hide hb
  have HE := hide hE
  have hl2 : xs.length ≤ 9223372036854775807 := hl
  clear ha hb hE hl
  go_enter Try.func31, Try.ntmps31
  go_wp2
  go_loopw [5] (fun t wr => ∃ k : Nat, k ≤ xs.length ∧ t = .int .i64 k ∧ Below w.heap.size w wr) (fun t _ => xs.length - (intOf t).toNat)
  case atStart => exact ⟨0, Nat.zero_le _, rfl, Below.refl _ _⟩
  case round =>
    obtain ⟨i, hi, rfl, hbw⟩ := hrel
    have HBW := hide hbw
    clear hbw
    by_cases hlt : i < xs.length
    · have hne : xs ≠ [] := by intro e; rw [e] at hlt; simp at hlt
      obtain ⟨x, hx⟩ : ∃ x, xs[i]? = some x := ⟨xs[i], List.getElem?_eq_getElem hlt⟩
      obtain ⟨ba, fa, ea, -, -, hA⟩ := (HA.out.later HBW.out (reads_later HBW.out h).1) hne
      obtain ⟨bb, fb, eb, -, -, hB⟩ := (HB.out.later HBW.out (reads_later HBW.out h).1) hne
      subst ea eb
      obtain ⟨va, lA, hkA, rA⟩ := hA i x hx
      obtain ⟨vb, lB, hkB, rB⟩ := hB i x hx
      obtain ⟨v0, v1, v2, v3, v4, v5, rfl⟩ := six lA
      obtain ⟨u0, u1, u2, u3, u4, u5, rfl⟩ := six lB
      have a0 := hkA 0 v0 rfl
      have b0 := hkB 0 u0 rfl
      have a1 := hkA 1 v1 rfl
      have b1 := hkB 1 u1 rfl
      have a2 := hkA 2 v2 rfl
      have b2 := hkB 2 u2 rfl
      have a3 := hkA 3 v3 rfl
      have b3 := hkB 3 u3 rfl
      have a4 := hkA 4 v4 rfl
      have b4 := hkB 4 u4 rfl
      have a5 := hkA 5 v5 rfl
      have b5 := hkB 5 u5 rfl
      rw [Nat.add_zero] at a0 b0
      have RA := hide rA
      have RB := hide rB
      clear hx hA hB hne hkA hkB rA rB lA lB
      have hlt2 : (i : Int) < xs.length := by omega
      go_wp2
      go_region_with ((go_at_call 9; refine (HE.out x [v0, v1, v2, v3, v4, v5] [u0, u1, u2, u3, u4, u5] _ ((reads_later (Below.refl _ _).drew h).1 _ _ RA.out) ((reads_later (Below.refl _ _).drew h).1 _ _ RB.out)).mono ?_; rintro e w1 ⟨rfl, hb1⟩))
      all_goals
        have HB1 := hide hb1
        clear hb1
        go_wp2
        go_roundw
        case rel => exact ⟨i + 1, by omega, by go_num, HBW.out.trans (((Below.refl _ _).drew.trans HB1.out).mono HBW.out.size)⟩
        case measure => simp [intOf]; omega
    · go_wp2
      go_ret
      exact ⟨rfl, HBW.out⟩

set_option maxHeartbeats 1000000 in
set_option maxRecDepth 100000 in
theorem eqDecS_of {h : Nat} (hE : EqDe h) (xs : List Tr) (hl : xs.length ≤ maxLen) (oa ob : Option Addr) (ca cb : Nat) (w : World) (ha : RowOf AllK w (reads AllK w h).de 9 oa xs) (hb : RowOf AllK w (reads AllK w h).de 9 ob xs) :
    Calls Try.prog 32 #[.slice oa xs.length ca, .slice ob xs.length cb] w fun e w' => e = .returned (.bool true) ∧ Below w.heap.size w w' := by
  have HA := hide ha
  have HB := hide hb
  have HE := hide hE
  have hl2 : xs.length ≤ 9223372036854775807 := hl
  clear ha hb hE hl
  go_enter Try.func32, Try.ntmps32
  go_wp2
  go_loopw [5] (fun t wr => ∃ k : Nat, k ≤ xs.length ∧ t = .int .i64 k ∧ Below w.heap.size w wr) (fun t _ => xs.length - (intOf t).toNat)
  case atStart => exact ⟨0, Nat.zero_le _, rfl, Below.refl _ _⟩
  case round =>
    obtain ⟨i, hi, rfl, hbw⟩ := hrel
    have HBW := hide hbw
    clear hbw
    by_cases hlt : i < xs.length
    · have hne : xs ≠ [] := by intro e; rw [e] at hlt; simp at hlt
      obtain ⟨x, hx⟩ : ∃ x, xs[i]? = some x := ⟨xs[i], List.getElem?_eq_getElem hlt⟩
      obtain ⟨ba, fa, ea, -, -, hA⟩ := (HA.out.later HBW.out (reads_later HBW.out h).2.1) hne
      obtain ⟨bb, fb, eb, -, -, hB⟩ := (HB.out.later HBW.out (reads_later HBW.out h).2.1) hne
      subst ea eb
      obtain ⟨va, lA, hkA, rA⟩ := hA i x hx
      obtain ⟨vb, lB, hkB, rB⟩ := hB i x hx
      obtain ⟨v0, v1, v2, v3, v4, v5, v6, v7, v8, rfl⟩ := nine lA
      obtain ⟨u0, u1, u2, u3, u4, u5, u6, u7, u8, rfl⟩ := nine lB
      have a0 := hkA 0 v0 rfl
      have b0 := hkB 0 u0 rfl
      have a1 := hkA 1 v1 rfl
      have b1 := hkB 1 u1 rfl
      have a2 := hkA 2 v2 rfl
      have b2 := hkB 2 u2 rfl
      have a3 := hkA 3 v3 rfl
      have b3 := hkB 3 u3 rfl
      have a4 := hkA 4 v4 rfl
      have b4 := hkB 4 u4 rfl
      have a5 := hkA 5 v5 rfl
      have b5 := hkB 5 u5 rfl
      have a6 := hkA 6 v6 rfl
      have b6 := hkB 6 u6 rfl
      have a7 := hkA 7 v7 rfl
      have b7 := hkB 7 u7 rfl
      have a8 := hkA 8 v8 rfl
      have b8 := hkB 8 u8 rfl
      rw [Nat.add_zero] at a0 b0
      have RA := hide rA
      have RB := hide rB
      clear hx hA hB hne hkA hkB rA rB lA lB
      have hlt2 : (i : Int) < xs.length := by omega
      go_wp2
      go_region_with ((go_at_call 16; refine (HE.out x [v0, v1, v2, v3, v4, v5, v6, v7, v8] [u0, u1, u2, u3, u4, u5, u6, u7, u8] _ ((reads_later (Below.refl _ _).drew h).2.1 _ _ RA.out) ((reads_later (Below.refl _ _).drew h).2.1 _ _ RB.out)).mono ?_; rintro e w1 ⟨rfl, hb1⟩))
      all_goals
        have HB1 := hide hb1
        clear hb1
        go_wp2
        go_roundw
        case rel => exact ⟨i + 1, by omega, by go_num, HBW.out.trans (((Below.refl _ _).drew.trans HB1.out).mono HBW.out.size)⟩
        case measure => simp [intOf]; omega
    · go_wp2
      go_ret
      exact ⟨rfl, HBW.out⟩

set_option maxHeartbeats 1000000 in
set_option maxRecDepth 100000 in
theorem eqAltS_of {h : Nat} (hE : EqAl h) (xs : List Tr) (hl : xs.length ≤ maxLen) (oa ob : Option Addr) (ca cb : Nat) (w : World) (ha : RowOf AllK w (reads AllK w h).al 8 oa xs) (hb : RowOf AllK w (reads AllK w h).al 8 ob xs) :
    Calls Try.prog 33 #[.slice oa xs.length ca, .slice ob xs.length cb] w fun e w' => e = .returned (.bool true) ∧ Below w.heap.size w w' := by
  have HA := hide ha
  have HB := hide hb
  have HE := hide hE
  have hl2 : xs.length ≤ 9223372036854775807 := hl
  clear ha hb hE hl
  go_enter Try.func33, Try.ntmps33
  go_wp2
  go_loopw [5] (fun t wr => ∃ k : Nat, k ≤ xs.length ∧ t = .int .i64 k ∧ Below w.heap.size w wr) (fun t _ => xs.length - (intOf t).toNat)
  case atStart => exact ⟨0, Nat.zero_le _, rfl, Below.refl _ _⟩
  case round =>
    obtain ⟨i, hi, rfl, hbw⟩ := hrel
    have HBW := hide hbw
    clear hbw
    by_cases hlt : i < xs.length
    · have hne : xs ≠ [] := by intro e; rw [e] at hlt; simp at hlt
      obtain ⟨x, hx⟩ : ∃ x, xs[i]? = some x := ⟨xs[i], List.getElem?_eq_getElem hlt⟩
      obtain ⟨ba, fa, ea, -, -, hA⟩ := (HA.out.later HBW.out (reads_later HBW.out h).2.2) hne
      obtain ⟨bb, fb, eb, -, -, hB⟩ := (HB.out.later HBW.out (reads_later HBW.out h).2.2) hne
      subst ea eb
      obtain ⟨va, lA, hkA, rA⟩ := hA i x hx
      obtain ⟨vb, lB, hkB, rB⟩ := hB i x hx
      obtain ⟨v0, v1, v2, v3, v4, v5, v6, v7, rfl⟩ := eight lA
      obtain ⟨u0, u1, u2, u3, u4, u5, u6, u7, rfl⟩ := eight lB
      have a0 := hkA 0 v0 rfl
      have b0 := hkB 0 u0 rfl
      have a1 := hkA 1 v1 rfl
      have b1 := hkB 1 u1 rfl
      have a2 := hkA 2 v2 rfl
      have b2 := hkB 2 u2 rfl
      have a3 := hkA 3 v3 rfl
      have b3 := hkB 3 u3 rfl
      have a4 := hkA 4 v4 rfl
      have b4 := hkB 4 u4 rfl
      have a5 := hkA 5 v5 rfl
      have b5 := hkB 5 u5 rfl
      have a6 := hkA 6 v6 rfl
      have b6 := hkB 6 u6 rfl
      have a7 := hkA 7 v7 rfl
      have b7 := hkB 7 u7 rfl
      rw [Nat.add_zero] at a0 b0
      have RA := hide rA
      have RB := hide rB
      clear hx hA hB hne hkA hkB rA rB lA lB
      have hlt2 : (i : Int) < xs.length := by omega
      go_wp2
      go_region_with ((go_at_call 64; refine (HE.out x [v0, v1, v2, v3, v4, v5, v6, v7] [u0, u1, u2, u3, u4, u5, u6, u7] _ ((reads_later (Below.refl _ _).drew h).2.2 _ _ RA.out) ((reads_later (Below.refl _ _).drew h).2.2 _ _ RB.out)).mono ?_; rintro e w1 ⟨rfl, hb1⟩))
      all_goals
        have HB1 := hide hb1
        clear hb1
        go_wp2
        go_roundw
        case rel => exact ⟨i + 1, by omega, by go_num, HBW.out.trans (((Below.refl _ _).drew.trans HB1.out).mono HBW.out.size)⟩
        case measure => simp [intOf]; omega
    · go_wp2
      go_ret
      exact ⟨rfl, HBW.out⟩

set_option maxHeartbeats 1000000 in
set_option maxRecDepth 100000 in
theorem eqExp_step {h : Nat} (i1 : EqEx h) (i2 : EqDe h) (i3 : EqAl h) : EqEx (h + 1) := by
  intro x ca cb w hra hrb
  obtain ⟨-, o1, c1, o2, c2, o3, c3, rfl, hs, hl, hd, ha, q1, q2, q3⟩ := hra
  obtain ⟨-, p1, d1, p2, d2, p3, d3, rfl, -, -, -, -, r1, r2, r3⟩ := hrb
  have I1 := hide i1
  have Q1 := hide q1
  have R1 := hide r1
  have I2 := hide i2
  have Q2 := hide q2
  have R2 := hide r2
  have I3 := hide i3
  have Q3 := hide q3
  have R3 := hide r3
  have HLS := hide (And.intro hl.1 (And.intro hd.1 ha.1))
  clear i1 i2 i3 q1 q2 q3 r1 r2 r3 hs hl hd ha
  have HX0 : Hid (((w.alloc (.cells #[.int .i64 x.k, .string x.s, .int .i64 x.n, .slice o1 x.l.length c1, .slice o2 x.ds.length c2, .slice o3 x.al.length c3] 32)).alloc (.cells #[.int .i64 x.k, .string x.s, .int .i64 x.n, .slice p1 x.l.length d1, .slice p2 x.ds.length d2, .slice p3 x.al.length d3] 32)).heap[w.heap.size]? = some (.cells #[.int .i64 x.k, .string x.s, .int .i64 x.n, .slice o1 x.l.length c1, .slice o2 x.ds.length c2, .slice o3 x.al.length c3] 32 (0, 0))) := (Below.heap_alloc _ _ _ (by simp)).trans (heap_alloc_new w _)
  have HY0 : Hid (((w.alloc (.cells #[.int .i64 x.k, .string x.s, .int .i64 x.n, .slice o1 x.l.length c1, .slice o2 x.ds.length c2, .slice o3 x.al.length c3] 32)).alloc (.cells #[.int .i64 x.k, .string x.s, .int .i64 x.n, .slice p1 x.l.length d1, .slice p2 x.ds.length d2, .slice p3 x.al.length d3] 32)).heap[w.heap.size + 1]? = some (.cells #[.int .i64 x.k, .string x.s, .int .i64 x.n, .slice p1 x.l.length d1, .slice p2 x.ds.length d2, .slice p3 x.al.length d3] 32 (0, 0))) := heap_alloc2_new w _ _
  have HB0 : Hid (Below w.heap.size w ((w.alloc (.cells #[.int .i64 x.k, .string x.s, .int .i64 x.n, .slice o1 x.l.length c1, .slice o2 x.ds.length c2, .slice o3 x.al.length c3] 32)).alloc (.cells #[.int .i64 x.k, .string x.s, .int .i64 x.n, .slice p1 x.l.length d1, .slice p2 x.ds.length d2, .slice p3 x.al.length d3] 32))) := ((Below.refl _ w).alloc (Nat.le_refl _) _).alloc (by simp) _
  have hz0 : w.heap.size + 2 ≤ ((w.alloc (.cells #[.int .i64 x.k, .string x.s, .int .i64 x.n, .slice o1 x.l.length c1, .slice o2 x.ds.length c2, .slice o3 x.al.length c3] 32)).alloc (.cells #[.int .i64 x.k, .string x.s, .int .i64 x.n, .slice p1 x.l.length d1, .slice p2 x.ds.length d2, .slice p3 x.al.length d3] 32)).heap.size := by simp
  go_enter Try.func9, Try.ntmps9
  go_wp2_with fail
  refine (eqExpS_of I1.out x.l HLS.out.1 o1 p1 c1 d1 _ (Q1.out.later HB0.out (reads_later HB0.out h).1) (R1.out.later HB0.out (reads_later HB0.out h).1)).mono ?_
  rintro e w1 ⟨rfl, hb⟩
  have HB1 := hide (HB0.out.trans (hb.mono HB0.out.size))
  have HX1 := hide ((hb.block w.heap.size (by omega)).trans HX0.out)
  have HY1 := hide ((hb.block (w.heap.size + 1) (by omega)).trans HY0.out)
  have hz1 : w.heap.size + 2 ≤ w1.heap.size := Nat.le_trans hz0 hb.size
  clear hb
  have x4_1 := cell_of HX1.out 4
  have y4_1 := cell_of HY1.out 4
  have x5_1 := cell_of HX1.out 5
  have y5_1 := cell_of HY1.out 5
  simp only [List.getElem?_toArray, List.getElem?_cons_succ, List.getElem?_cons_zero] at x4_1 y4_1 x5_1 y5_1
  go_wp2_with fail
  refine (eqDecS_of I2.out x.ds HLS.out.2.1 o2 p2 c2 d2 _ (Q2.out.later HB1.out (reads_later HB1.out h).2.1) (R2.out.later HB1.out (reads_later HB1.out h).2.1)).mono ?_
  rintro e w2 ⟨rfl, hb⟩
  have HB2 := hide (HB1.out.trans (hb.mono HB1.out.size))
  have HX2 := hide ((hb.block w.heap.size (by omega)).trans HX1.out)
  have HY2 := hide ((hb.block (w.heap.size + 1) (by omega)).trans HY1.out)
  have hz2 : w.heap.size + 2 ≤ w2.heap.size := Nat.le_trans hz1 hb.size
  clear hb
  have x5_2 := cell_of HX2.out 5
  have y5_2 := cell_of HY2.out 5
  simp only [List.getElem?_toArray, List.getElem?_cons_succ, List.getElem?_cons_zero] at x5_2 y5_2
  go_wp2_with fail
  refine (eqAltS_of I3.out x.al HLS.out.2.2 o3 p3 c3 d3 _ (Q3.out.later HB2.out (reads_later HB2.out h).2.2) (R3.out.later HB2.out (reads_later HB2.out h).2.2)).mono ?_
  rintro e w3 ⟨rfl, hb⟩
  have HB3 := hide (HB2.out.trans (hb.mono HB2.out.size))
  have HX3 := hide ((hb.block w.heap.size (by omega)).trans HX2.out)
  have HY3 := hide ((hb.block (w.heap.size + 1) (by omega)).trans HY2.out)
  have hz3 : w.heap.size + 2 ≤ w3.heap.size := Nat.le_trans hz2 hb.size
  clear hb
  go_wp2
  go_ret
  exact ⟨rfl, HB3.out⟩

set_option maxHeartbeats 1000000 in
set_option maxRecDepth 100000 in
theorem eqDec_step {h : Nat} (i1 : EqEx h) (i2 : EqDe h) : EqDe (h + 1) := by
  intro x ca cb w hra hrb
  obtain ⟨-, -, -, y, o1, c1, ce, o2, c2, hy, rfl, hs, hl, hd, q1, hce, q2, q3⟩ := hra
  obtain ⟨-, -, -, y2, p1, d1, cf, p2, d2, hy2, rfl, -, -, -, r1, hcf, r2, r3⟩ := hrb
  have hyy : y = y2 := by rw [hy] at hy2; simpa using hy2
  subst hyy
  obtain ⟨co0, co1, co2, co3, co4, co5, rfl⟩ := six hce
  obtain ⟨dp0, dp1, dp2, dp3, dp4, dp5, rfl⟩ := six hcf
  simp only [List.cons_append, List.nil_append]
  have I1 := hide i1
  have Q1 := hide q1
  have R1 := hide r1
  have Q2 := hide q2
  have R2 := hide r2
  have HLS := hide (And.intro hl.1 hd.1)
  have I2 := hide i2
  have Q3 := hide q3
  have R3 := hide r3
  clear i1 q1 r1 q2 r2 hy hy2 hce hcf hs hl i2 q3 r3 hd
  have HX0 : Hid (((w.alloc (.cells #[.string x.s, .slice o1 x.ss.length c1, co0, co1, co2, co3, co4, co5, .slice o2 x.ds.length c2] 44)).alloc (.cells #[.string x.s, .slice p1 x.ss.length d1, dp0, dp1, dp2, dp3, dp4, dp5, .slice p2 x.ds.length d2] 44)).heap[w.heap.size]? = some (.cells #[.string x.s, .slice o1 x.ss.length c1, co0, co1, co2, co3, co4, co5, .slice o2 x.ds.length c2] 44 (0, 0))) := (Below.heap_alloc _ _ _ (by simp)).trans (heap_alloc_new w _)
  have HY0 : Hid (((w.alloc (.cells #[.string x.s, .slice o1 x.ss.length c1, co0, co1, co2, co3, co4, co5, .slice o2 x.ds.length c2] 44)).alloc (.cells #[.string x.s, .slice p1 x.ss.length d1, dp0, dp1, dp2, dp3, dp4, dp5, .slice p2 x.ds.length d2] 44)).heap[w.heap.size + 1]? = some (.cells #[.string x.s, .slice p1 x.ss.length d1, dp0, dp1, dp2, dp3, dp4, dp5, .slice p2 x.ds.length d2] 44 (0, 0))) := heap_alloc2_new w _ _
  have HB0 : Hid (Below w.heap.size w ((w.alloc (.cells #[.string x.s, .slice o1 x.ss.length c1, co0, co1, co2, co3, co4, co5, .slice o2 x.ds.length c2] 44)).alloc (.cells #[.string x.s, .slice p1 x.ss.length d1, dp0, dp1, dp2, dp3, dp4, dp5, .slice p2 x.ds.length d2] 44))) := ((Below.refl _ w).alloc (Nat.le_refl _) _).alloc (by simp) _
  have hz0 : w.heap.size + 2 ≤ ((w.alloc (.cells #[.string x.s, .slice o1 x.ss.length c1, co0, co1, co2, co3, co4, co5, .slice o2 x.ds.length c2] 44)).alloc (.cells #[.string x.s, .slice p1 x.ss.length d1, dp0, dp1, dp2, dp3, dp4, dp5, .slice p2 x.ds.length d2] 44)).heap.size := by simp
  go_enter Try.func16, Try.ntmps16
  go_wp2_with fail
  refine (eqStringS_same x.ss HLS.out.1 o1 p1 c1 d1 _ (Q1.out.later HB0.out fun _ _ h => h) (R1.out.later HB0.out fun _ _ h => h)).mono ?_
  rintro e w1 ⟨rfl, hb⟩
  have HB1 := hide (HB0.out.trans (hb.mono HB0.out.size))
  have HX1 := hide ((hb.block w.heap.size (by omega)).trans HX0.out)
  have HY1 := hide ((hb.block (w.heap.size + 1) (by omega)).trans HY0.out)
  have hz1 : w.heap.size + 2 ≤ w1.heap.size := Nat.le_trans hz0 hb.size
  clear hb
  have x2_1 := cell_of HX1.out 2
  have y2_1 := cell_of HY1.out 2
  have x3_1 := cell_of HX1.out 3
  have y3_1 := cell_of HY1.out 3
  have x4_1 := cell_of HX1.out 4
  have y4_1 := cell_of HY1.out 4
  have x5_1 := cell_of HX1.out 5
  have y5_1 := cell_of HY1.out 5
  have x6_1 := cell_of HX1.out 6
  have y6_1 := cell_of HY1.out 6
  have x7_1 := cell_of HX1.out 7
  have y7_1 := cell_of HY1.out 7
  have x8_1 := cell_of HX1.out 8
  have y8_1 := cell_of HY1.out 8
  simp only [List.getElem?_toArray, List.getElem?_cons_succ, List.getElem?_cons_zero] at x2_1 y2_1 x3_1 y3_1 x4_1 y4_1 x5_1 y5_1 x6_1 y6_1 x7_1 y7_1 x8_1 y8_1
  go_wp2_with fail
  refine (I1.out y _ _ _ ((reads_later HB1.out h).1 _ _ Q2.out) ((reads_later HB1.out h).1 _ _ R2.out)).mono ?_
  rintro e w2 ⟨rfl, hb⟩
  have HB2 := hide (HB1.out.trans (hb.mono HB1.out.size))
  have HX2 := hide ((hb.block w.heap.size (by omega)).trans HX1.out)
  have HY2 := hide ((hb.block (w.heap.size + 1) (by omega)).trans HY1.out)
  have hz2 : w.heap.size + 2 ≤ w2.heap.size := Nat.le_trans hz1 hb.size
  clear hb
  have x8_2 := cell_of HX2.out 8
  have y8_2 := cell_of HY2.out 8
  simp only [List.getElem?_toArray, List.getElem?_cons_succ, List.getElem?_cons_zero] at x8_2 y8_2
  go_wp2_with fail
  refine (eqDecS_of I2.out x.ds HLS.out.2 o2 p2 c2 d2 _ (Q3.out.later HB2.out (reads_later HB2.out h).2.1) (R3.out.later HB2.out (reads_later HB2.out h).2.1)).mono ?_
  rintro e w3 ⟨rfl, hb⟩
  have HB3 := hide (HB2.out.trans (hb.mono HB2.out.size))
  have HX3 := hide ((hb.block w.heap.size (by omega)).trans HX2.out)
  have HY3 := hide ((hb.block (w.heap.size + 1) (by omega)).trans HY2.out)
  have hz3 : w.heap.size + 2 ≤ w3.heap.size := Nat.le_trans hz2 hb.size
  clear hb
  go_wp2
  go_ret
  exact ⟨rfl, HB3.out⟩

set_option maxHeartbeats 1000000 in
set_option maxRecDepth 100000 in
theorem eqAlt_step {h : Nat} (i1 : EqEx h) : EqAl (h + 1) := by
  intro x ca cb w hra hrb
  obtain ⟨-, -, -, -, y, o1, c1, ce, hy, rfl, hs, hl, q1, hce, q2⟩ := hra
  obtain ⟨-, -, -, -, y2, p1, d1, cf, hy2, rfl, -, -, r1, hcf, r2⟩ := hrb
  have hyy : y = y2 := by rw [hy] at hy2; simpa using hy2
  subst hyy
  obtain ⟨co0, co1, co2, co3, co4, co5, rfl⟩ := six hce
  obtain ⟨dp0, dp1, dp2, dp3, dp4, dp5, rfl⟩ := six hcf
  simp only [List.cons_append, List.nil_append]
  have I1 := hide i1
  have Q1 := hide q1
  have R1 := hide r1
  have Q2 := hide q2
  have R2 := hide r2
  have HLS := hide (And.intro hl.1 trivial)
  clear i1 q1 r1 q2 r2 hy hy2 hce hcf hs hl
  have HX0 : Hid (((w.alloc (.cells #[.string x.s, .slice o1 x.ss.length c1, co0, co1, co2, co3, co4, co5] 54)).alloc (.cells #[.string x.s, .slice p1 x.ss.length d1, dp0, dp1, dp2, dp3, dp4, dp5] 54)).heap[w.heap.size]? = some (.cells #[.string x.s, .slice o1 x.ss.length c1, co0, co1, co2, co3, co4, co5] 54 (0, 0))) := (Below.heap_alloc _ _ _ (by simp)).trans (heap_alloc_new w _)
  have HY0 : Hid (((w.alloc (.cells #[.string x.s, .slice o1 x.ss.length c1, co0, co1, co2, co3, co4, co5] 54)).alloc (.cells #[.string x.s, .slice p1 x.ss.length d1, dp0, dp1, dp2, dp3, dp4, dp5] 54)).heap[w.heap.size + 1]? = some (.cells #[.string x.s, .slice p1 x.ss.length d1, dp0, dp1, dp2, dp3, dp4, dp5] 54 (0, 0))) := heap_alloc2_new w _ _
  have HB0 : Hid (Below w.heap.size w ((w.alloc (.cells #[.string x.s, .slice o1 x.ss.length c1, co0, co1, co2, co3, co4, co5] 54)).alloc (.cells #[.string x.s, .slice p1 x.ss.length d1, dp0, dp1, dp2, dp3, dp4, dp5] 54))) := ((Below.refl _ w).alloc (Nat.le_refl _) _).alloc (by simp) _
  have hz0 : w.heap.size + 2 ≤ ((w.alloc (.cells #[.string x.s, .slice o1 x.ss.length c1, co0, co1, co2, co3, co4, co5] 54)).alloc (.cells #[.string x.s, .slice p1 x.ss.length d1, dp0, dp1, dp2, dp3, dp4, dp5] 54)).heap.size := by simp
  go_enter Try.func64, Try.ntmps64
  go_wp2_with fail
  refine (eqStringS_same x.ss HLS.out.1 o1 p1 c1 d1 _ (Q1.out.later HB0.out fun _ _ h => h) (R1.out.later HB0.out fun _ _ h => h)).mono ?_
  rintro e w1 ⟨rfl, hb⟩
  have HB1 := hide (HB0.out.trans (hb.mono HB0.out.size))
  have HX1 := hide ((hb.block w.heap.size (by omega)).trans HX0.out)
  have HY1 := hide ((hb.block (w.heap.size + 1) (by omega)).trans HY0.out)
  have hz1 : w.heap.size + 2 ≤ w1.heap.size := Nat.le_trans hz0 hb.size
  clear hb
  have x2_1 := cell_of HX1.out 2
  have y2_1 := cell_of HY1.out 2
  have x3_1 := cell_of HX1.out 3
  have y3_1 := cell_of HY1.out 3
  have x4_1 := cell_of HX1.out 4
  have y4_1 := cell_of HY1.out 4
  have x5_1 := cell_of HX1.out 5
  have y5_1 := cell_of HY1.out 5
  have x6_1 := cell_of HX1.out 6
  have y6_1 := cell_of HY1.out 6
  have x7_1 := cell_of HX1.out 7
  have y7_1 := cell_of HY1.out 7
  simp only [List.getElem?_toArray, List.getElem?_cons_succ, List.getElem?_cons_zero] at x2_1 y2_1 x3_1 y3_1 x4_1 y4_1 x5_1 y5_1 x6_1 y6_1 x7_1 y7_1
  go_wp2_with fail
  refine (I1.out y _ _ _ ((reads_later HB1.out h).1 _ _ Q2.out) ((reads_later HB1.out h).1 _ _ R2.out)).mono ?_
  rintro e w2 ⟨rfl, hb⟩
  have HB2 := hide (HB1.out.trans (hb.mono HB1.out.size))
  have HX2 := hide ((hb.block w.heap.size (by omega)).trans HX1.out)
  have HY2 := hide ((hb.block (w.heap.size + 1) (by omega)).trans HY1.out)
  have hz2 : w.heap.size + 2 ≤ w2.heap.size := Nat.le_trans hz1 hb.size
  clear hb
  go_wp2
  go_ret
  exact ⟨rfl, HB2.out⟩

theorem eq_all (h : Nat) : EqEx h ∧ EqDe h ∧ EqAl h := by
  induction h with
  | zero => exact ⟨fun _ _ _ _ hr => hr.elim, fun _ _ _ _ hr => hr.elim, fun _ _ _ _ hr => hr.elim⟩
  | succ h ih => exact ⟨eqExp_step ih.1 ih.2.1 ih.2.2, eqDec_step ih.1 ih.2.1, eqAlt_step ih.1⟩
end Go.Proofs.Ytgeckgdmkjddpaa

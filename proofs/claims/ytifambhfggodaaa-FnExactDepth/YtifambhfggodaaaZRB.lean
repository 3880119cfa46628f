/- The law's measure of types, makers, datas and programs. -/
import Derived.Test.YtifambhfggodaaaZRA
namespace Go.Proofs.Ytifambhfggodaaa
open Go.ChangeShapes Go.WideShapes Go.ChangeAt Go.RowKit

def wty : Nat → Tr → Nat
  | 0 => fun _ => 0
  | h + 1 => fun t => t.s.size + lw (wty h) t.l
def wco (h : Nat) (t : Tr) : Nat := t.s.size + lw (wty h) t.l
def wda (h : Nat) (t : Tr) : Nat := t.s.size + lw (wco h) t.l
def wpr (h : Nat) (t : Tr) : Nat := lw (wda h) t.l + lw (wts h).de t.ds
def SzTy (K : Nat → Prop) (h : Nat) : Prop := ∀ (x : Tr) (cs : List Value) (w : World) (z : Int), 0 ≤ z → z ≤ 1048576 → tyR K w h x cs → Calls Try.prog 4 #[.agg cs.toArray, .int .i64 z] w fun e w' => ∃ r : Int, e = .returned (.int .i64 r) ∧ r ≤ z ∧ (0 ≤ r → ((wty h x : Nat) : Int) ≤ z - r) ∧ Below w.heap.size w w'
set_option maxHeartbeats 2000000 in
set_option maxRecDepth 100000 in
theorem szTyS_of {K : Nat → Prop} {h : Nat} (hE : SzTy K h) (xs : List Tr) (o : Option Addr) (cap : Nat) (w : World) (z : Int) (hz0 : 0 ≤ z) (hz : z ≤ 1048576) (hl : xs.length ≤ maxLen) (hm : RowOf K w (tyR K w h) 4 o xs) :
    Calls Try.prog 9 #[.slice o xs.length cap, .int .i64 z] w fun e w' => ∃ r : Int, e = .returned (.int .i64 r) ∧ r ≤ z ∧ (0 ≤ r → ((lw (wty h) xs : Nat) : Int) ≤ z - r) ∧ Below w.heap.size w w' := by
  have HM := hide hm
  have HE := hide hE
  have hl2 : xs.length ≤ 9223372036854775807 := hl
  clear hm hE hl
  by_cases hbig : z - xs.length < 0
  · go_enter Try.func9, Try.ntmps9
    go_wp2
    go_ret
    exact ⟨-1, rfl, by omega, fun h => by omega, Below.refl _ _⟩
  go_enter Try.func9, Try.ntmps9
  go_wp2
  go_loopw [1, 5] (fun t1 t5 wr => ∃ (i : Nat) (y : Int), i ≤ xs.length ∧ t5 = .int .i64 i ∧ t1 = .int .i64 y ∧ 0 ≤ y ∧ y ≤ z ∧ ((xs.length + ((xs.take i).map (wty h)).sum : Nat) : Int) ≤ z - y ∧ Below w.heap.size w wr) (fun _ t5 _ => xs.length - (intOf t5).toNat)
  case atStart => exact ⟨0, z - xs.length, Nat.zero_le _, rfl, rfl, by omega, by omega, by simp; omega, Below.refl _ _⟩
  case round =>
    obtain ⟨i, y, hi, rfl, rfl, hy0, hy1, hsum, hbw⟩ := hrel
    have HSUM := hide hsum
    have HBW := hide hbw
    clear hsum hbw
    by_cases hlt : i < xs.length
    · have hne : xs ≠ [] := by intro e; rw [e] at hlt; simp at hlt
      obtain ⟨x, hx⟩ : ∃ x, xs[i]? = some x := ⟨xs[i], List.getElem?_eq_getElem hlt⟩
      obtain ⟨b, off, eo, -, hbl, hcs⟩ := (HM.out.later HBW.out fun _ _ h => h) hne
      subst eo
      obtain ⟨cs, hlen, hkey, hrd⟩ := hcs i x hx
      obtain ⟨v0, v1, v2, v3, rfl⟩ := four_of hlen
      have q0 := hkey 0 v0 rfl
      have q1 := hkey 1 v1 rfl
      have q2 := hkey 2 v2 rfl
      have q3 := hkey 3 v3 rfl
      rw [Nat.add_zero] at q0
      have HX := hide hx
      have HRD := hide (tyR_later HBW.out h x _ hrd)
      clear hcs hx hne hkey hlen hrd
      have hlt2 : (i : Int) < xs.length := by omega
      go_wp2_with fail
      refine (HE.out x _ _ y hy0 (by omega) HRD.out).mono ?_
      rintro e w1 ⟨r, rfl, hr1, hr2, hb1⟩
      have HR2 := hide hr2
      have HB1 := hide hb1
      clear hr2 hb1
      by_cases hr : r < 0
      · go_wp2
        go_ret
        exact ⟨-1, rfl, by omega, fun h => by omega, HBW.out.trans (HB1.out.mono HBW.out.size)⟩
      · go_wp2
        refine ⟨⟨i + 1, r, by omega, by go_num, rfl, by omega, by omega, ?_, HBW.out.trans (HB1.out.mono HBW.out.size)⟩, by simp [intOf]; omega⟩
        rw [List.take_add_one, HX.out, List.map_append, List.sum_append]
        have h1 := HSUM.out
        have h2 := HR2.out (by omega)
        simp only [Option.toList_some, List.map_cons, List.map_nil, List.sum_cons, List.sum_nil]
        omega
    · go_wp2
      go_ret
      refine ⟨y, rfl, by omega, fun _ => ?_, HBW.out⟩
      have h := HSUM.out
      rw [List.take_of_length_le (by omega)] at h
      exact h

set_option maxHeartbeats 2000000 in
set_option maxRecDepth 100000 in
theorem szTy_step {K : Nat → Prop} {h : Nat} (i1 : SzTy K h) : SzTy K (h + 1) := by
  intro x cs w z hz0 hz hrd
  obtain ⟨-, -, -, o1, c1, rfl, hs, hl, q1⟩ := hrd
  have hs2 : x.s.size ≤ 9223372036854775807 := hs
  have I1 := hide i1
  have Q1 := hide q1
  have HL := hide hl
  clear i1 q1 hs hl
  have HX0 : Hid ((w.alloc (.cells #[.int .i64 x.k, .string x.s, .int .i64 x.n, .slice o1 x.l.length c1] 24)).heap[w.heap.size]? = some (.cells #[.int .i64 x.k, .string x.s, .int .i64 x.n, .slice o1 x.l.length c1] 24 (0, 0))) := heap_alloc_new w _
  have HB0 : Hid (Below w.heap.size w (w.alloc (.cells #[.int .i64 x.k, .string x.s, .int .i64 x.n, .slice o1 x.l.length c1] 24))) := (Below.refl _ w).alloc (Nat.le_refl _) _
  by_cases hn0 : z - x.s.size < 0
  · go_enter Try.func4, Try.ntmps4
    go_wp2
    go_ret
    exact ⟨-1, rfl, by omega, fun h => by omega, HB0.out⟩
  go_enter Try.func4, Try.ntmps4
  go_wp2_with fail
  refine (szTyS_of I1.out x.l o1 c1 _ (z - x.s.size) (by omega) (by omega) HL.out.1 (Q1.out.later HB0.out (tyR_later HB0.out h))).mono ?_
  rintro e w1 ⟨r1, rfl, hr1, hs1, hb⟩
  have HR1 := hide hs1
  have HB1 := hide (HB0.out.trans (hb.mono HB0.out.size))
  clear hs1 hb
  by_cases hneg1 : r1 < 0
  · go_wp2
    go_ret
    exact ⟨-1, rfl, by omega, fun h => by omega, HB1.out⟩
  go_wp2
  go_ret
  refine ⟨r1, rfl, by omega, fun h0 => ?_, HB1.out⟩
  have a1 := HR1.out (by omega)
  show ((x.s.size + lw (wty h) x.l : Nat) : Int) ≤ z - r1
  omega

theorem szTy_all (K : Nat → Prop) (h : Nat) : SzTy K h := by
  induction h with
  | zero => exact fun _ _ _ _ _ _ hr => hr.elim
  | succ h ih => exact szTy_step ih

end Go.Proofs.Ytifambhfggodaaa

/- Made of XB, XC. -/
import Derived.Test.YtgeckgdmkjddpaaQ00
namespace Go.Proofs.Ytgeckgdmkjddpaa
open Go.ChangeShapes Go.WideShapes Go.ChangeAt Go.RowKit

def lw (f : Tr → Nat) (xs : List Tr) : Nat := xs.length + (xs.map f).sum
def sw (ss : List ByteArray) : Nat := ss.length + (ss.map ByteArray.size).sum
structure Wts where
  ex : Tr → Nat
  de : Tr → Nat
  al : Tr → Nat
/-- What the measure counts, up to a height. -/
def wts : Nat → Wts
  | 0 => ⟨fun _ => 0, fun _ => 0, fun _ => 0⟩
  | h + 1 => ⟨fun e => e.s.size + lw (wts h).ex e.l + lw (wts h).de e.ds + lw (wts h).al e.al, fun d => d.s.size + sw d.ss + (d.l.map (wts h).ex).sum + lw (wts h).de d.ds, fun a => a.s.size + sw a.ss + (a.l.map (wts h).ex).sum⟩

set_option maxHeartbeats 2000000 in
set_option maxRecDepth 100000 in
theorem szStringS_any {K : Nat → Prop} (ss : List ByteArray) (o : Option Addr) (cap : Nat) (w : World) (z : Int) (hz0 : 0 ≤ z) (hz : z ≤ 1048576) (hl : ss.length ≤ maxLen) (hm : RowOf K w strR 1 o ss) :
    Calls Try.prog 40 #[.slice o ss.length cap, .int .i64 z] w fun e w' => ∃ r : Int, e = .returned (.int .i64 r) ∧ r ≤ z ∧ (0 ≤ r → ((sw ss : Nat) : Int) ≤ z - r) ∧ Below w.heap.size w w' := by
  have HM := hide hm
  have hl2 : ss.length ≤ 9223372036854775807 := hl
  clear hm hl
  by_cases hbig : z - ss.length < 0
  · go_enter Try.func40, Try.ntmps40
    go_wp2
    go_ret
    exact ⟨-1, rfl, by omega, fun h => by omega, Below.refl _ _⟩
  go_enter Try.func40, Try.ntmps40
  go_wp2
  go_loopw [1, 5] (fun t1 t5 wr => ∃ (i : Nat) (y : Int), i ≤ ss.length ∧ t5 = .int .i64 i ∧ t1 = .int .i64 y ∧ 0 ≤ y ∧ y ≤ z ∧ ((ss.length + ((ss.take i).map ByteArray.size).sum : Nat) : Int) ≤ z - y ∧ wr = w) (fun _ t5 _ => ss.length - (intOf t5).toNat)
  case atStart => exact ⟨0, z - ss.length, Nat.zero_le _, rfl, rfl, by omega, by omega, by simp; omega, rfl⟩
  case round =>
    obtain ⟨i, y, hi, rfl, rfl, hy0, hy1, hsum, rfl⟩ := hrel
    have HSUM := hide hsum
    clear hsum
    by_cases hlt : i < ss.length
    · have hne : ss ≠ [] := by intro e; rw [e] at hlt; simp at hlt
      obtain ⟨x, hx⟩ : ∃ x, ss[i]? = some x := ⟨ss[i], List.getElem?_eq_getElem hlt⟩
      obtain ⟨b, off, eo, -, hbl, hcs⟩ := HM.out hne
      subst eo
      obtain ⟨cs, hlen, hkey, hcx, hxs⟩ := hcs i x hx
      subst hcx
      have q0 := hkey 0 _ rfl
      rw [Nat.mul_one, Nat.add_zero] at q0
      have hxs2 : x.size ≤ 9223372036854775807 := hxs
      have HX := hide hx
      clear hcs hx hne hkey hlen hxs
      have hlt2 : (i : Int) < ss.length := by omega
      by_cases hr : y - x.size < 0
      · go_wp2
        go_ret
        exact ⟨-1, rfl, by omega, fun h => by omega, Below.refl _ _⟩
      · go_wp2
        refine ⟨⟨i + 1, y - x.size, by omega, by go_num, by first | rfl | go_num, by omega, by omega, ?_, by trivial⟩, by simp [intOf]; omega⟩
        rw [List.take_add_one, HX.out, List.map_append, List.sum_append]
        have h1 := HSUM.out
        simp only [Option.toList_some, List.map_cons, List.map_nil, List.sum_cons, List.sum_nil]
        omega
    · go_wp2
      go_ret
      refine ⟨y, rfl, by omega, fun _ => ?_, Below.refl _ _⟩
      have h := HSUM.out
      rw [List.take_of_length_le (by omega)] at h
      exact h

set_option maxHeartbeats 2000000 in
set_option maxRecDepth 100000 in
theorem szExpS_of {K : Nat → Prop} {h : Nat} (hE : ∀ (x : Tr) (cs : List Value) (w : World) (z : Int), 0 ≤ z → z ≤ 1048576 → (reads K w h).ex x cs → Calls Try.prog 5 #[.agg cs.toArray, .int .i64 z] w fun e w' => ∃ r : Int, e = .returned (.int .i64 r) ∧ r ≤ z ∧ (0 ≤ r → ((wts h).ex x : Int) ≤ z - r) ∧ Below w.heap.size w w')
    (xs : List Tr) (o : Option Addr) (cap : Nat) (w : World) (z : Int) (hz0 : 0 ≤ z) (hz : z ≤ 1048576) (hl : xs.length ≤ maxLen) (hm : RowOf K w (reads K w h).ex 6 o xs) :
    Calls Try.prog 18 #[.slice o xs.length cap, .int .i64 z] w fun e w' => ∃ r : Int, e = .returned (.int .i64 r) ∧ r ≤ z ∧ (0 ≤ r → ((lw (wts h).ex xs : Nat) : Int) ≤ z - r) ∧ Below w.heap.size w w' := by
  have HM := hide hm
  have HE := hide hE
  have hl2 : xs.length ≤ 9223372036854775807 := hl
  clear hm hE hl
  by_cases hbig : z - xs.length < 0
  · go_enter Try.func18, Try.ntmps18
    go_wp2
    go_ret
    exact ⟨-1, rfl, by omega, fun h => by omega, Below.refl _ _⟩
  go_enter Try.func18, Try.ntmps18
  go_wp2
  go_loopw [1, 5] (fun t1 t5 wr => ∃ (i : Nat) (y : Int), i ≤ xs.length ∧ t5 = .int .i64 i ∧ t1 = .int .i64 y ∧ 0 ≤ y ∧ y ≤ z ∧ ((xs.length + ((xs.take i).map (wts h).ex).sum : Nat) : Int) ≤ z - y ∧ Below w.heap.size w wr) (fun _ t5 _ => xs.length - (intOf t5).toNat)
  case atStart => exact ⟨0, z - xs.length, Nat.zero_le _, rfl, rfl, by omega, by omega, by simp; omega, Below.refl _ _⟩
  case round =>
    obtain ⟨i, y, hi, rfl, rfl, hy0, hy1, hsum, hbw⟩ := hrel
    have HSUM := hide hsum
    have HBW := hide hbw
    clear hsum hbw
    by_cases hlt : i < xs.length
    · have hne : xs ≠ [] := by intro e; rw [e] at hlt; simp at hlt
      obtain ⟨x, hx⟩ : ∃ x, xs[i]? = some x := ⟨xs[i], List.getElem?_eq_getElem hlt⟩
      obtain ⟨b, off, eo, -, hbl, hcs⟩ := (HM.out.later HBW.out fun _ _ h => h) hne
      subst eo
      obtain ⟨cs, hlen, hkey, hrd⟩ := hcs i x hx
      obtain ⟨v0, v1, v2, v3, v4, v5, rfl⟩ := six hlen
      have q0 := hkey 0 v0 rfl
      have q1 := hkey 1 v1 rfl
      have q2 := hkey 2 v2 rfl
      have q3 := hkey 3 v3 rfl
      have q4 := hkey 4 v4 rfl
      have q5 := hkey 5 v5 rfl
      rw [Nat.add_zero] at q0
      have HX := hide hx
      have HRD := hide ((reads_later HBW.out h).1 x _ hrd)
      clear hcs hx hne hkey hlen hrd
      have hlt2 : (i : Int) < xs.length := by omega
      go_wp2_with fail
      refine (HE.out x _ _ y hy0 (by omega) HRD.out).mono ?_
      rintro e w1 ⟨r, rfl, hr1, hr2, hb1⟩
      have HR2 := hide hr2
      have HB1 := hide hb1
      clear hr2 hb1
      by_cases hr : r < 0
      · go_wp2
        go_ret
        exact ⟨-1, rfl, by omega, fun h => by omega, HBW.out.trans (HB1.out.mono HBW.out.size)⟩
      · go_wp2
        refine ⟨⟨i + 1, r, by omega, by go_num, rfl, by omega, by omega, ?_, HBW.out.trans (HB1.out.mono HBW.out.size)⟩, by simp [intOf]; omega⟩
        rw [List.take_add_one, HX.out, List.map_append, List.sum_append]
        have h1 := HSUM.out
        have h2 := HR2.out (by omega)
        simp only [Option.toList_some, List.map_cons, List.map_nil, List.sum_cons, List.sum_nil]
        omega
    · go_wp2
      go_ret
      refine ⟨y, rfl, by omega, fun _ => ?_, HBW.out⟩
      have h := HSUM.out
      rw [List.take_of_length_le (by omega)] at h
      exact h

set_option maxHeartbeats 2000000 in
set_option maxRecDepth 100000 in
theorem szDecS_of {K : Nat → Prop} {h : Nat} (hE : ∀ (x : Tr) (cs : List Value) (w : World) (z : Int), 0 ≤ z → z ≤ 1048576 → (reads K w h).de x cs → Calls Try.prog 12 #[.agg cs.toArray, .int .i64 z] w fun e w' => ∃ r : Int, e = .returned (.int .i64 r) ∧ r ≤ z ∧ (0 ≤ r → ((wts h).de x : Int) ≤ z - r) ∧ Below w.heap.size w w')
    (xs : List Tr) (o : Option Addr) (cap : Nat) (w : World) (z : Int) (hz0 : 0 ≤ z) (hz : z ≤ 1048576) (hl : xs.length ≤ maxLen) (hm : RowOf K w (reads K w h).de 9 o xs) :
    Calls Try.prog 19 #[.slice o xs.length cap, .int .i64 z] w fun e w' => ∃ r : Int, e = .returned (.int .i64 r) ∧ r ≤ z ∧ (0 ≤ r → ((lw (wts h).de xs : Nat) : Int) ≤ z - r) ∧ Below w.heap.size w w' := by
  have HM := hide hm
  have HE := hide hE
  have hl2 : xs.length ≤ 9223372036854775807 := hl
  clear hm hE hl
  by_cases hbig : z - xs.length < 0
  · go_enter Try.func19, Try.ntmps19
    go_wp2
    go_ret
    exact ⟨-1, rfl, by omega, fun h => by omega, Below.refl _ _⟩
  go_enter Try.func19, Try.ntmps19
  go_wp2
  go_loopw [1, 5] (fun t1 t5 wr => ∃ (i : Nat) (y : Int), i ≤ xs.length ∧ t5 = .int .i64 i ∧ t1 = .int .i64 y ∧ 0 ≤ y ∧ y ≤ z ∧ ((xs.length + ((xs.take i).map (wts h).de).sum : Nat) : Int) ≤ z - y ∧ Below w.heap.size w wr) (fun _ t5 _ => xs.length - (intOf t5).toNat)
  case atStart => exact ⟨0, z - xs.length, Nat.zero_le _, rfl, rfl, by omega, by omega, by simp; omega, Below.refl _ _⟩
  case round =>
    obtain ⟨i, y, hi, rfl, rfl, hy0, hy1, hsum, hbw⟩ := hrel
    have HSUM := hide hsum
    have HBW := hide hbw
    clear hsum hbw
    by_cases hlt : i < xs.length
    · have hne : xs ≠ [] := by intro e; rw [e] at hlt; simp at hlt
      obtain ⟨x, hx⟩ : ∃ x, xs[i]? = some x := ⟨xs[i], List.getElem?_eq_getElem hlt⟩
      obtain ⟨b, off, eo, -, hbl, hcs⟩ := (HM.out.later HBW.out fun _ _ h => h) hne
      subst eo
      obtain ⟨cs, hlen, hkey, hrd⟩ := hcs i x hx
      obtain ⟨v0, v1, v2, v3, v4, v5, v6, v7, v8, rfl⟩ := nine hlen
      have q0 := hkey 0 v0 rfl
      have q1 := hkey 1 v1 rfl
      have q2 := hkey 2 v2 rfl
      have q3 := hkey 3 v3 rfl
      have q4 := hkey 4 v4 rfl
      have q5 := hkey 5 v5 rfl
      have q6 := hkey 6 v6 rfl
      have q7 := hkey 7 v7 rfl
      have q8 := hkey 8 v8 rfl
      rw [Nat.add_zero] at q0
      have HX := hide hx
      have HRD := hide ((reads_later HBW.out h).2.1 x _ hrd)
      clear hcs hx hne hkey hlen hrd
      have hlt2 : (i : Int) < xs.length := by omega
      go_wp2_with fail
      refine (HE.out x _ _ y hy0 (by omega) HRD.out).mono ?_
      rintro e w1 ⟨r, rfl, hr1, hr2, hb1⟩
      have HR2 := hide hr2
      have HB1 := hide hb1
      clear hr2 hb1
      by_cases hr : r < 0
      · go_wp2
        go_ret
        exact ⟨-1, rfl, by omega, fun h => by omega, HBW.out.trans (HB1.out.mono HBW.out.size)⟩
      · go_wp2
        refine ⟨⟨i + 1, r, by omega, by go_num, rfl, by omega, by omega, ?_, HBW.out.trans (HB1.out.mono HBW.out.size)⟩, by simp [intOf]; omega⟩
        rw [List.take_add_one, HX.out, List.map_append, List.sum_append]
        have h1 := HSUM.out
        have h2 := HR2.out (by omega)
        simp only [Option.toList_some, List.map_cons, List.map_nil, List.sum_cons, List.sum_nil]
        omega
    · go_wp2
      go_ret
      refine ⟨y, rfl, by omega, fun _ => ?_, HBW.out⟩
      have h := HSUM.out
      rw [List.take_of_length_le (by omega)] at h
      exact h

set_option maxHeartbeats 2000000 in
set_option maxRecDepth 100000 in
theorem szAltS_of {K : Nat → Prop} {h : Nat} (hE : ∀ (x : Tr) (cs : List Value) (w : World) (z : Int), 0 ≤ z → z ≤ 1048576 → (reads K w h).al x cs → Calls Try.prog 45 #[.agg cs.toArray, .int .i64 z] w fun e w' => ∃ r : Int, e = .returned (.int .i64 r) ∧ r ≤ z ∧ (0 ≤ r → ((wts h).al x : Int) ≤ z - r) ∧ Below w.heap.size w w')
    (xs : List Tr) (o : Option Addr) (cap : Nat) (w : World) (z : Int) (hz0 : 0 ≤ z) (hz : z ≤ 1048576) (hl : xs.length ≤ maxLen) (hm : RowOf K w (reads K w h).al 8 o xs) :
    Calls Try.prog 20 #[.slice o xs.length cap, .int .i64 z] w fun e w' => ∃ r : Int, e = .returned (.int .i64 r) ∧ r ≤ z ∧ (0 ≤ r → ((lw (wts h).al xs : Nat) : Int) ≤ z - r) ∧ Below w.heap.size w w' := by
  have HM := hide hm
  have HE := hide hE
  have hl2 : xs.length ≤ 9223372036854775807 := hl
  clear hm hE hl
  by_cases hbig : z - xs.length < 0
  · go_enter Try.func20, Try.ntmps20
    go_wp2
    go_ret
    exact ⟨-1, rfl, by omega, fun h => by omega, Below.refl _ _⟩
  go_enter Try.func20, Try.ntmps20
  go_wp2
  go_loopw [1, 5] (fun t1 t5 wr => ∃ (i : Nat) (y : Int), i ≤ xs.length ∧ t5 = .int .i64 i ∧ t1 = .int .i64 y ∧ 0 ≤ y ∧ y ≤ z ∧ ((xs.length + ((xs.take i).map (wts h).al).sum : Nat) : Int) ≤ z - y ∧ Below w.heap.size w wr) (fun _ t5 _ => xs.length - (intOf t5).toNat)
  case atStart => exact ⟨0, z - xs.length, Nat.zero_le _, rfl, rfl, by omega, by omega, by simp; omega, Below.refl _ _⟩
  case round =>
    obtain ⟨i, y, hi, rfl, rfl, hy0, hy1, hsum, hbw⟩ := hrel
    have HSUM := hide hsum
    have HBW := hide hbw
    clear hsum hbw
    by_cases hlt : i < xs.length
    · have hne : xs ≠ [] := by intro e; rw [e] at hlt; simp at hlt
      obtain ⟨x, hx⟩ : ∃ x, xs[i]? = some x := ⟨xs[i], List.getElem?_eq_getElem hlt⟩
      obtain ⟨b, off, eo, -, hbl, hcs⟩ := (HM.out.later HBW.out fun _ _ h => h) hne
      subst eo
      obtain ⟨cs, hlen, hkey, hrd⟩ := hcs i x hx
      obtain ⟨v0, v1, v2, v3, v4, v5, v6, v7, rfl⟩ := eight hlen
      have q0 := hkey 0 v0 rfl
      have q1 := hkey 1 v1 rfl
      have q2 := hkey 2 v2 rfl
      have q3 := hkey 3 v3 rfl
      have q4 := hkey 4 v4 rfl
      have q5 := hkey 5 v5 rfl
      have q6 := hkey 6 v6 rfl
      have q7 := hkey 7 v7 rfl
      rw [Nat.add_zero] at q0
      have HX := hide hx
      have HRD := hide ((reads_later HBW.out h).2.2 x _ hrd)
      clear hcs hx hne hkey hlen hrd
      have hlt2 : (i : Int) < xs.length := by omega
      go_wp2_with fail
      refine (HE.out x _ _ y hy0 (by omega) HRD.out).mono ?_
      rintro e w1 ⟨r, rfl, hr1, hr2, hb1⟩
      have HR2 := hide hr2
      have HB1 := hide hb1
      clear hr2 hb1
      by_cases hr : r < 0
      · go_wp2
        go_ret
        exact ⟨-1, rfl, by omega, fun h => by omega, HBW.out.trans (HB1.out.mono HBW.out.size)⟩
      · go_wp2
        refine ⟨⟨i + 1, r, by omega, by go_num, rfl, by omega, by omega, ?_, HBW.out.trans (HB1.out.mono HBW.out.size)⟩, by simp [intOf]; omega⟩
        rw [List.take_add_one, HX.out, List.map_append, List.sum_append]
        have h1 := HSUM.out
        have h2 := HR2.out (by omega)
        simp only [Option.toList_some, List.map_cons, List.map_nil, List.sum_cons, List.sum_nil]
        omega
    · go_wp2
      go_ret
      refine ⟨y, rfl, by omega, fun _ => ?_, HBW.out⟩
      have h := HSUM.out
      rw [List.take_of_length_le (by omega)] at h
      exact h
end Go.Proofs.Ytgeckgdmkjddpaa
namespace Go.Proofs.Ytgeckgdmkjddpaa
open Go.ChangeShapes Go.WideShapes Go.ChangeAt Go.RowKit

def SzEx (K : Nat → Prop) (h : Nat) : Prop := ∀ (x : Tr) (cs : List Value) (w : World) (z : Int), 0 ≤ z → z ≤ 1048576 → (reads K w h).ex x cs → Calls Try.prog 5 #[.agg cs.toArray, .int .i64 z] w fun e w' => ∃ r : Int, e = .returned (.int .i64 r) ∧ r ≤ z ∧ (0 ≤ r → ((wts h).ex x : Int) ≤ z - r) ∧ Below w.heap.size w w'
def SzDe (K : Nat → Prop) (h : Nat) : Prop := ∀ (x : Tr) (cs : List Value) (w : World) (z : Int), 0 ≤ z → z ≤ 1048576 → (reads K w h).de x cs → Calls Try.prog 12 #[.agg cs.toArray, .int .i64 z] w fun e w' => ∃ r : Int, e = .returned (.int .i64 r) ∧ r ≤ z ∧ (0 ≤ r → ((wts h).de x : Int) ≤ z - r) ∧ Below w.heap.size w w'
def SzAl (K : Nat → Prop) (h : Nat) : Prop := ∀ (x : Tr) (cs : List Value) (w : World) (z : Int), 0 ≤ z → z ≤ 1048576 → (reads K w h).al x cs → Calls Try.prog 45 #[.agg cs.toArray, .int .i64 z] w fun e w' => ∃ r : Int, e = .returned (.int .i64 r) ∧ r ≤ z ∧ (0 ≤ r → ((wts h).al x : Int) ≤ z - r) ∧ Below w.heap.size w w'

set_option maxHeartbeats 4000000 in
set_option maxRecDepth 100000 in
theorem szExp_step {K : Nat → Prop} {h : Nat} (i1 : SzEx K h) (i2 : SzDe K h) (i3 : SzAl K h) : SzEx K (h + 1) := by
  intro x cs w z hz0 hz hrd
  obtain ⟨-, o1, c1, o2, c2, o3, c3, rfl, hs, hl, hd, ha, q1, q2, q3⟩ := hrd
  have hs2 : x.s.size ≤ 9223372036854775807 := hs
  have I1 := hide i1
  have I2 := hide i2
  have I3 := hide i3
  have Q1 := hide q1
  have Q2 := hide q2
  have Q3 := hide q3
  clear i1 i2 i3 q1 q2 q3 hs
  have HX0 : Hid ((w.alloc (.cells #[.int .i64 x.k, .string x.s, .int .i64 x.n, .slice o1 x.l.length c1, .slice o2 x.ds.length c2, .slice o3 x.al.length c3] 26)).heap[w.heap.size]? = some (.cells #[.int .i64 x.k, .string x.s, .int .i64 x.n, .slice o1 x.l.length c1, .slice o2 x.ds.length c2, .slice o3 x.al.length c3] 26 (0, 0))) := heap_alloc_new w _
  have HB0 : Hid (Below w.heap.size w (w.alloc (.cells #[.int .i64 x.k, .string x.s, .int .i64 x.n, .slice o1 x.l.length c1, .slice o2 x.ds.length c2, .slice o3 x.al.length c3] 26))) := (Below.refl _ w).alloc (Nat.le_refl _) _
  by_cases hn0 : z - x.s.size < 0
  · go_enter Try.func5, Try.ntmps5
    go_wp2
    go_ret
    exact ⟨-1, rfl, by omega, fun h => by omega, HB0.out⟩
  go_enter Try.func5, Try.ntmps5
  go_wp2_with fail
  refine (szExpS_of I1.out x.l o1 c1 _ (z - x.s.size) (by omega) (by omega) hl.1 (Q1.out.later HB0.out (reads_later HB0.out h).1)).mono ?_
  rintro e w1 ⟨r1, rfl, hr1, hs1, hb⟩
  have HR1 := hide hs1
  have HB1 := hide (HB0.out.trans (hb.mono HB0.out.size))
  have HX1 := hide ((hb.block w.heap.size (heap_lt HX0.out)).trans HX0.out)
  clear hs1 hb
  by_cases hneg1 : r1 < 0
  · go_wp2
    go_ret
    exact ⟨-1, rfl, by omega, fun h => by omega, HB1.out⟩
  have b4_1 := cell_of HX1.out 4
  have b5_1 := cell_of HX1.out 5
  simp only [List.getElem?_toArray, List.getElem?_cons_succ, List.getElem?_cons_zero] at b4_1 b5_1
  go_wp2_with fail
  refine (szDecS_of I2.out x.ds o2 c2 _ r1 (by omega) (by omega) hd.1 (Q2.out.later HB1.out (reads_later HB1.out h).2.1)).mono ?_
  rintro e w2 ⟨r2, rfl, hr2, hs2, hb⟩
  have HR2 := hide hs2
  have HB2 := hide (HB1.out.trans (hb.mono HB1.out.size))
  have HX2 := hide ((hb.block w.heap.size (heap_lt HX1.out)).trans HX1.out)
  clear hs2 hb
  by_cases hneg2 : r2 < 0
  · go_wp2
    go_ret
    exact ⟨-1, rfl, by omega, fun h => by omega, HB2.out⟩
  have b5_2 := cell_of HX2.out 5
  simp only [List.getElem?_toArray, List.getElem?_cons_succ, List.getElem?_cons_zero] at b5_2
  go_wp2_with fail
  refine (szAltS_of I3.out x.al o3 c3 _ r2 (by omega) (by omega) ha.1 (Q3.out.later HB2.out (reads_later HB2.out h).2.2)).mono ?_
  rintro e w3 ⟨r3, rfl, hr3, hs3, hb⟩
  have HR3 := hide hs3
  have HB3 := hide (HB2.out.trans (hb.mono HB2.out.size))
  have HX3 := hide ((hb.block w.heap.size (heap_lt HX2.out)).trans HX2.out)
  clear hs3 hb
  by_cases hneg3 : r3 < 0
  · go_wp2
    go_ret
    exact ⟨-1, rfl, by omega, fun h => by omega, HB3.out⟩
  go_wp2
  go_ret
  refine ⟨r3, rfl, by omega, fun h0 => ?_, HB3.out⟩
  have a1 := HR1.out (by omega)
  have a2 := HR2.out (by omega)
  have a3 := HR3.out (by omega)
  show ((x.s.size + lw (wts h).ex x.l + lw (wts h).de x.ds + lw (wts h).al x.al : Nat) : Int) ≤ z - r3
  omega

set_option maxHeartbeats 4000000 in
set_option maxRecDepth 100000 in
theorem szDec_step {K : Nat → Prop} {h : Nat} (i1 : SzEx K h) (i2 : SzDe K h) : SzDe K (h + 1) := by
  intro x cs w z hz0 hz hrd
  obtain ⟨-, -, -, y, o1, c1, ce, o2, c2, hy, rfl, hs, hl, hd, q1, hce, q2, q3⟩ := hrd
  obtain ⟨a0, a1, a2, a3, a4, a5, rfl⟩ := six hce
  simp only [List.cons_append, List.nil_append]
  have hs2 : x.s.size ≤ 9223372036854775807 := hs
  have I1 := hide i1
  have I2 := hide i2
  have Q1 := hide q1
  have Q2 := hide q2
  have Q3 := hide q3
  have HY := hide hy
  clear i1 i2 q1 q2 q3 hs hy hce
  have HX0 : Hid ((w.alloc (.cells #[.string x.s, .slice o1 x.ss.length c1, a0, a1, a2, a3, a4, a5, .slice o2 x.ds.length c2] 40)).heap[w.heap.size]? = some (.cells #[.string x.s, .slice o1 x.ss.length c1, a0, a1, a2, a3, a4, a5, .slice o2 x.ds.length c2] 40 (0, 0))) := heap_alloc_new w _
  have HB0 : Hid (Below w.heap.size w (w.alloc (.cells #[.string x.s, .slice o1 x.ss.length c1, a0, a1, a2, a3, a4, a5, .slice o2 x.ds.length c2] 40))) := (Below.refl _ w).alloc (Nat.le_refl _) _
  by_cases hn0 : z - x.s.size < 0
  · go_enter Try.func12, Try.ntmps12
    go_wp2
    go_ret
    exact ⟨-1, rfl, by omega, fun h => by omega, HB0.out⟩
  go_enter Try.func12, Try.ntmps12
  go_wp2_with fail
  refine (szStringS_any x.ss o1 c1 _ (z - x.s.size) (by omega) (by omega) hl.1 (Q1.out.later HB0.out fun _ _ h => h)).mono ?_
  rintro e w1 ⟨r1, rfl, hr1, hs1, hb⟩
  have HR1 := hide hs1
  have HB1 := hide (HB0.out.trans (hb.mono HB0.out.size))
  have HX1 := hide ((hb.block w.heap.size (heap_lt HX0.out)).trans HX0.out)
  clear hs1 hb
  by_cases hneg1 : r1 < 0
  · go_wp2
    go_ret
    exact ⟨-1, rfl, by omega, fun h => by omega, HB1.out⟩
  have b2_1 := cell_of HX1.out 2
  have b3_1 := cell_of HX1.out 3
  have b4_1 := cell_of HX1.out 4
  have b5_1 := cell_of HX1.out 5
  have b6_1 := cell_of HX1.out 6
  have b7_1 := cell_of HX1.out 7
  have b8_1 := cell_of HX1.out 8
  simp only [List.getElem?_toArray, List.getElem?_cons_succ, List.getElem?_cons_zero] at b2_1 b3_1 b4_1 b5_1 b6_1 b7_1 b8_1
  go_wp2_with fail
  refine (I1.out y _ _ r1 (by omega) (by omega) ((reads_later HB1.out h).1 _ _ Q2.out)).mono ?_
  rintro e w2 ⟨r2, rfl, hr2, hs2, hb⟩
  have HR2 := hide hs2
  have HB2 := hide (HB1.out.trans (hb.mono HB1.out.size))
  have HX2 := hide ((hb.block w.heap.size (heap_lt HX1.out)).trans HX1.out)
  clear hs2 hb
  by_cases hneg2 : r2 < 0
  · go_wp2
    go_ret
    exact ⟨-1, rfl, by omega, fun h => by omega, HB2.out⟩
  have b8_2 := cell_of HX2.out 8
  simp only [List.getElem?_toArray, List.getElem?_cons_succ, List.getElem?_cons_zero] at b8_2
  go_wp2_with fail
  refine (szDecS_of I2.out x.ds o2 c2 _ r2 (by omega) (by omega) hd.1 (Q3.out.later HB2.out (reads_later HB2.out h).2.1)).mono ?_
  rintro e w3 ⟨r3, rfl, hr3, hs3, hb⟩
  have HR3 := hide hs3
  have HB3 := hide (HB2.out.trans (hb.mono HB2.out.size))
  have HX3 := hide ((hb.block w.heap.size (heap_lt HX2.out)).trans HX2.out)
  clear hs3 hb
  by_cases hneg3 : r3 < 0
  · go_wp2
    go_ret
    exact ⟨-1, rfl, by omega, fun h => by omega, HB3.out⟩
  go_wp2
  go_ret
  refine ⟨r3, rfl, by omega, fun h0 => ?_, HB3.out⟩
  have a1 := HR1.out (by omega)
  have a2 := HR2.out (by omega)
  have a3 := HR3.out (by omega)
  show ((x.s.size + sw x.ss + (x.l.map (wts h).ex).sum + lw (wts h).de x.ds : Nat) : Int) ≤ z - r3
  rw [HY.out]
  simp only [List.map_cons, List.map_nil, List.sum_cons, List.sum_nil]
  omega

set_option maxHeartbeats 4000000 in
set_option maxRecDepth 100000 in
theorem szAlt_step {K : Nat → Prop} {h : Nat} (i1 : SzEx K h) : SzAl K (h + 1) := by
  intro x cs w z hz0 hz hrd
  obtain ⟨-, -, -, -, y, o1, c1, ce, hy, rfl, hs, hl, q1, hce, q2⟩ := hrd
  obtain ⟨a0, a1, a2, a3, a4, a5, rfl⟩ := six hce
  simp only [List.cons_append, List.nil_append]
  have hs2 : x.s.size ≤ 9223372036854775807 := hs
  have I1 := hide i1
  have Q1 := hide q1
  have Q2 := hide q2
  have HY := hide hy
  clear i1 q1 q2 hs hy hce
  have HX0 : Hid ((w.alloc (.cells #[.string x.s, .slice o1 x.ss.length c1, a0, a1, a2, a3, a4, a5] 102)).heap[w.heap.size]? = some (.cells #[.string x.s, .slice o1 x.ss.length c1, a0, a1, a2, a3, a4, a5] 102 (0, 0))) := heap_alloc_new w _
  have HB0 : Hid (Below w.heap.size w (w.alloc (.cells #[.string x.s, .slice o1 x.ss.length c1, a0, a1, a2, a3, a4, a5] 102))) := (Below.refl _ w).alloc (Nat.le_refl _) _
  by_cases hn0 : z - x.s.size < 0
  · go_enter Try.func45, Try.ntmps45
    go_wp2
    go_ret
    exact ⟨-1, rfl, by omega, fun h => by omega, HB0.out⟩
  go_enter Try.func45, Try.ntmps45
  go_wp2_with fail
  refine (szStringS_any x.ss o1 c1 _ (z - x.s.size) (by omega) (by omega) hl.1 (Q1.out.later HB0.out fun _ _ h => h)).mono ?_
  rintro e w1 ⟨r1, rfl, hr1, hs1, hb⟩
  have HR1 := hide hs1
  have HB1 := hide (HB0.out.trans (hb.mono HB0.out.size))
  have HX1 := hide ((hb.block w.heap.size (heap_lt HX0.out)).trans HX0.out)
  clear hs1 hb
  by_cases hneg1 : r1 < 0
  · go_wp2
    go_ret
    exact ⟨-1, rfl, by omega, fun h => by omega, HB1.out⟩
  have b2_1 := cell_of HX1.out 2
  have b3_1 := cell_of HX1.out 3
  have b4_1 := cell_of HX1.out 4
  have b5_1 := cell_of HX1.out 5
  have b6_1 := cell_of HX1.out 6
  have b7_1 := cell_of HX1.out 7
  simp only [List.getElem?_toArray, List.getElem?_cons_succ, List.getElem?_cons_zero] at b2_1 b3_1 b4_1 b5_1 b6_1 b7_1
  go_wp2_with fail
  refine (I1.out y _ _ r1 (by omega) (by omega) ((reads_later HB1.out h).1 _ _ Q2.out)).mono ?_
  rintro e w2 ⟨r2, rfl, hr2, hs2, hb⟩
  have HR2 := hide hs2
  have HB2 := hide (HB1.out.trans (hb.mono HB1.out.size))
  have HX2 := hide ((hb.block w.heap.size (heap_lt HX1.out)).trans HX1.out)
  clear hs2 hb
  by_cases hneg2 : r2 < 0
  · go_wp2
    go_ret
    exact ⟨-1, rfl, by omega, fun h => by omega, HB2.out⟩
  go_wp2
  go_ret
  refine ⟨r2, rfl, by omega, fun h0 => ?_, HB2.out⟩
  have a1 := HR1.out (by omega)
  have a2 := HR2.out (by omega)
  show ((x.s.size + sw x.ss + (x.l.map (wts h).ex).sum : Nat) : Int) ≤ z - r2
  rw [HY.out]
  simp only [List.map_cons, List.map_nil, List.sum_cons, List.sum_nil]
  omega

theorem sz_all (K : Nat → Prop) (h : Nat) : SzEx K h ∧ SzDe K h ∧ SzAl K h := by
  induction h with
  | zero => exact ⟨fun _ _ _ _ _ _ hr => hr.elim, fun _ _ _ _ _ _ hr => hr.elim, fun _ _ _ _ _ _ hr => hr.elim⟩
  | succ h ih => exact ⟨szExp_step ih.1 ih.2.1 ih.2.2, szDec_step ih.1 ih.2.1, szAlt_step ih.1⟩
end Go.Proofs.Ytgeckgdmkjddpaa

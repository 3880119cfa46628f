/- The law's measure of types, makers, datas and programs. -/
import Derived.Test.YteoghpefilghdalPA
namespace Go.Proofs.Yteoghpefilghdal
open Go.ChangeShapes Go.WideShapes Go.ChangeAt Go.RowKit

def wty : Nat → Tr → Nat
  | 0 => fun _ => 0
  | h + 1 => fun t => t.s.size + lw (wty h) t.l
def wco (h : Nat) (t : Tr) : Nat := t.s.size + lw (wty h) t.l
def wda (h : Nat) (t : Tr) : Nat := t.s.size + lw (wco h) t.l
def wpr (h : Nat) (t : Tr) : Nat := lw (wda h) t.l + lw (wts h).de t.ds
def SzTy (K : Nat → Prop) (h : Nat) : Prop := ∀ (x : Tr) (cs : List Value) (w : World) (z : Int), 0 ≤ z → z ≤ 1048576 → tyR K w h x cs → Calls Try.prog 10 #[.agg cs.toArray, .int .i64 z] w fun e w' => ∃ r : Int, e = .returned (.int .i64 r) ∧ r ≤ z ∧ (0 ≤ r → ((wty h x : Nat) : Int) ≤ z - r) ∧ Below w.heap.size w w'
def SzCon (K : Nat → Prop) (h : Nat) : Prop := ∀ (x : Tr) (cs : List Value) (w : World) (z : Int), 0 ≤ z → z ≤ 1048576 → coR K w h x cs → Calls Try.prog 60 #[.agg cs.toArray, .int .i64 z] w fun e w' => ∃ r : Int, e = .returned (.int .i64 r) ∧ r ≤ z ∧ (0 ≤ r → ((wco h x : Nat) : Int) ≤ z - r) ∧ Below w.heap.size w w'
def SzData (K : Nat → Prop) (h : Nat) : Prop := ∀ (x : Tr) (cs : List Value) (w : World) (z : Int), 0 ≤ z → z ≤ 1048576 → daR K w h x cs → Calls Try.prog 28 #[.agg cs.toArray, .int .i64 z] w fun e w' => ∃ r : Int, e = .returned (.int .i64 r) ∧ r ≤ z ∧ (0 ≤ r → ((wda h x : Nat) : Int) ≤ z - r) ∧ Below w.heap.size w w'
def SzProg (K : Nat → Prop) (h : Nat) : Prop := ∀ (x : Tr) (cs : List Value) (w : World) (z : Int), 0 ≤ z → z ≤ 1048576 → prR K w h x cs → Calls Try.prog 5 #[.agg cs.toArray, .int .i64 z] w fun e w' => ∃ r : Int, e = .returned (.int .i64 r) ∧ r ≤ z ∧ (0 ≤ r → ((wpr h x : Nat) : Int) ≤ z - r) ∧ Below w.heap.size w w'

set_option maxHeartbeats 2000000 in
set_option maxRecDepth 100000 in
theorem szTyS_of {K : Nat → Prop} {h : Nat} (hE : SzTy K h) (xs : List Tr) (o : Option Addr) (cap : Nat) (w : World) (z : Int) (hz0 : 0 ≤ z) (hz : z ≤ 1048576) (hl : xs.length ≤ maxLen) (hm : RowOf K w (tyR K w h) 4 o xs) :
    Calls Try.prog 23 #[.slice o xs.length cap, .int .i64 z] w fun e w' => ∃ r : Int, e = .returned (.int .i64 r) ∧ r ≤ z ∧ (0 ≤ r → ((lw (wty h) xs : Nat) : Int) ≤ z - r) ∧ Below w.heap.size w w' := by
  have HM := hide hm
  have HE := hide hE
  have hl2 : xs.length ≤ 9223372036854775807 := hl
  clear hm hE hl
  by_cases hbig : z - xs.length < 0
  · go_enter Try.func23, Try.ntmps23
    go_wp2
    go_ret
    exact ⟨-1, rfl, by omega, fun h => by omega, Below.refl _ _⟩
  go_enter Try.func23, Try.ntmps23
  go_wp2
  go_loopw [1, 5] (fun t1 t5 wr => ∃ (i : Nat) (y : Int), i ≤ xs.length ∧ t5 = .int .i64 i ∧ t1 = .int .i64 y ∧ 0 ≤ y ∧ y ≤ z ∧ ((xs.length + ((xs.take i).map (wty h)).sum : Nat) : Int) ≤ z - y ∧ Below w.heap.size w wr) (fun _ t5 _ => xs.length - (intOf t5).toNat)
  case atStart => exact ⟨0, z - xs.length, Nat.zero_le _, rfl, rfl, by omega, by omega, by simp; omega, Below.refl _ _⟩
  case round =>
    obtain ⟨i, y, hi, rfl, rfl, hy0, hy1, hsum, hbw⟩ := hrel
    have HSUM := hide hsum
    have HBW := hide hbw
    clear hsum hbw
    by_cases hlt : i < xs.length
    · have hne : xs ≠ [] := by intro e; rw [e] at hlt; simp at hlt
      obtain ⟨x, hx⟩ : ∃ x, xs[i]? = some x := ⟨xs[i], List.getElem?_eq_getElem hlt⟩
      obtain ⟨b, off, eo, -, hbl, hcs⟩ := (HM.out.later HBW.out fun _ _ h => h) hne
      subst eo
      obtain ⟨cs, hlen, hkey, hrd⟩ := hcs i x hx
      obtain ⟨v0, v1, v2, v3, rfl⟩ := four_of hlen
      have q0 := hkey 0 v0 rfl
      have q1 := hkey 1 v1 rfl
      have q2 := hkey 2 v2 rfl
      have q3 := hkey 3 v3 rfl
      rw [Nat.add_zero] at q0
      have HX := hide hx
      have HRD := hide (tyR_later HBW.out h x _ hrd)
      clear hcs hx hne hkey hlen hrd
      have hlt2 : (i : Int) < xs.length := by omega
      go_wp2_with fail
      refine (HE.out x _ _ y hy0 (by omega) HRD.out).mono ?_
      rintro e w1 ⟨r, rfl, hr1, hr2, hb1⟩
      have HR2 := hide hr2
      have HB1 := hide hb1
      clear hr2 hb1
      by_cases hr : r < 0
      · go_wp2
        go_ret
        exact ⟨-1, rfl, by omega, fun h => by omega, HBW.out.trans (HB1.out.mono HBW.out.size)⟩
      · go_wp2
        refine ⟨⟨i + 1, r, by omega, by go_num, rfl, by omega, by omega, ?_, HBW.out.trans (HB1.out.mono HBW.out.size)⟩, by simp [intOf]; omega⟩
        rw [List.take_add_one, HX.out, List.map_append, List.sum_append]
        have h1 := HSUM.out
        have h2 := HR2.out (by omega)
        simp only [Option.toList_some, List.map_cons, List.map_nil, List.sum_cons, List.sum_nil]
        omega
    · go_wp2
      go_ret
      refine ⟨y, rfl, by omega, fun _ => ?_, HBW.out⟩
      have h := HSUM.out
      rw [List.take_of_length_le (by omega)] at h
      exact h

set_option maxHeartbeats 2000000 in
set_option maxRecDepth 100000 in
theorem szTy_step {K : Nat → Prop} {h : Nat} (i1 : SzTy K h) : SzTy K (h + 1) := by
  intro x cs w z hz0 hz hrd
  obtain ⟨-, -, -, o1, c1, rfl, hs, hl, q1⟩ := hrd
  have hs2 : x.s.size ≤ 9223372036854775807 := hs
  have I1 := hide i1
  have Q1 := hide q1
  have HL := hide hl
  clear i1 q1 hs hl
  have HX0 : Hid ((w.alloc (.cells #[.int .i64 x.k, .string x.s, .int .i64 x.n, .slice o1 x.l.length c1] 37)).heap[w.heap.size]? = some (.cells #[.int .i64 x.k, .string x.s, .int .i64 x.n, .slice o1 x.l.length c1] 37 (0, 0))) := heap_alloc_new w _
  have HB0 : Hid (Below w.heap.size w (w.alloc (.cells #[.int .i64 x.k, .string x.s, .int .i64 x.n, .slice o1 x.l.length c1] 37))) := (Below.refl _ w).alloc (Nat.le_refl _) _
  by_cases hn0 : z - x.s.size < 0
  · go_enter Try.func10, Try.ntmps10
    go_wp2
    go_ret
    exact ⟨-1, rfl, by omega, fun h => by omega, HB0.out⟩
  go_enter Try.func10, Try.ntmps10
  go_wp2_with fail
  refine (szTyS_of I1.out x.l o1 c1 _ (z - x.s.size) (by omega) (by omega) HL.out.1 (Q1.out.later HB0.out (tyR_later HB0.out h))).mono ?_
  rintro e w1 ⟨r1, rfl, hr1, hs1, hb⟩
  have HR1 := hide hs1
  have HB1 := hide (HB0.out.trans (hb.mono HB0.out.size))
  clear hs1 hb
  by_cases hneg1 : r1 < 0
  · go_wp2
    go_ret
    exact ⟨-1, rfl, by omega, fun h => by omega, HB1.out⟩
  go_wp2
  go_ret
  refine ⟨r1, rfl, by omega, fun h0 => ?_, HB1.out⟩
  have a1 := HR1.out (by omega)
  show ((x.s.size + lw (wty h) x.l : Nat) : Int) ≤ z - r1
  omega

theorem szTy_all (K : Nat → Prop) (h : Nat) : SzTy K h := by
  induction h with
  | zero => exact fun _ _ _ _ _ _ hr => hr.elim
  | succ h ih => exact szTy_step ih

set_option maxHeartbeats 2000000 in
set_option maxRecDepth 100000 in
theorem szCon_step {K : Nat → Prop} {h : Nat} (i1 : SzTy K h) : SzCon K h := by
  intro x cs w z hz0 hz hrd
  obtain ⟨-, -, -, -, -, o1, c1, rfl, hs, hl, q1⟩ := hrd
  have hs2 : x.s.size ≤ 9223372036854775807 := hs
  have I1 := hide i1
  have Q1 := hide q1
  have HL := hide hl
  clear i1 q1 hs hl
  have HX0 : Hid ((w.alloc (.cells #[.string x.s, .slice o1 x.l.length c1] 156)).heap[w.heap.size]? = some (.cells #[.string x.s, .slice o1 x.l.length c1] 156 (0, 0))) := heap_alloc_new w _
  have HB0 : Hid (Below w.heap.size w (w.alloc (.cells #[.string x.s, .slice o1 x.l.length c1] 156))) := (Below.refl _ w).alloc (Nat.le_refl _) _
  by_cases hn0 : z - x.s.size < 0
  · go_enter Try.func60, Try.ntmps60
    go_wp2
    go_ret
    exact ⟨-1, rfl, by omega, fun h => by omega, HB0.out⟩
  go_enter Try.func60, Try.ntmps60
  go_wp2_with fail
  refine (szTyS_of I1.out x.l o1 c1 _ (z - x.s.size) (by omega) (by omega) HL.out.1 (Q1.out.later HB0.out (tyR_later HB0.out h))).mono ?_
  rintro e w1 ⟨r1, rfl, hr1, hs1, hb⟩
  have HR1 := hide hs1
  have HB1 := hide (HB0.out.trans (hb.mono HB0.out.size))
  clear hs1 hb
  by_cases hneg1 : r1 < 0
  · go_wp2
    go_ret
    exact ⟨-1, rfl, by omega, fun h => by omega, HB1.out⟩
  go_wp2
  go_ret
  refine ⟨r1, rfl, by omega, fun h0 => ?_, HB1.out⟩
  have a1 := HR1.out (by omega)
  show ((x.s.size + lw (wty h) x.l : Nat) : Int) ≤ z - r1
  omega

set_option maxHeartbeats 2000000 in
set_option maxRecDepth 100000 in
theorem szConS_of {K : Nat → Prop} {h : Nat} (hE : SzCon K h) (xs : List Tr) (o : Option Addr) (cap : Nat) (w : World) (z : Int) (hz0 : 0 ≤ z) (hz : z ≤ 1048576) (hl : xs.length ≤ maxLen) (hm : RowOf K w (coR K w h) 2 o xs) :
    Calls Try.prog 44 #[.slice o xs.length cap, .int .i64 z] w fun e w' => ∃ r : Int, e = .returned (.int .i64 r) ∧ r ≤ z ∧ (0 ≤ r → ((lw (wco h) xs : Nat) : Int) ≤ z - r) ∧ Below w.heap.size w w' := by
  have HM := hide hm
  have HE := hide hE
  have hl2 : xs.length ≤ 9223372036854775807 := hl
  clear hm hE hl
  by_cases hbig : z - xs.length < 0
  · go_enter Try.func44, Try.ntmps44
    go_wp2
    go_ret
    exact ⟨-1, rfl, by omega, fun h => by omega, Below.refl _ _⟩
  go_enter Try.func44, Try.ntmps44
  go_wp2
  go_loopw [1, 5] (fun t1 t5 wr => ∃ (i : Nat) (y : Int), i ≤ xs.length ∧ t5 = .int .i64 i ∧ t1 = .int .i64 y ∧ 0 ≤ y ∧ y ≤ z ∧ ((xs.length + ((xs.take i).map (wco h)).sum : Nat) : Int) ≤ z - y ∧ Below w.heap.size w wr) (fun _ t5 _ => xs.length - (intOf t5).toNat)
  case atStart => exact ⟨0, z - xs.length, Nat.zero_le _, rfl, rfl, by omega, by omega, by simp; omega, Below.refl _ _⟩
  case round =>
    obtain ⟨i, y, hi, rfl, rfl, hy0, hy1, hsum, hbw⟩ := hrel
    have HSUM := hide hsum
    have HBW := hide hbw
    clear hsum hbw
    by_cases hlt : i < xs.length
    · have hne : xs ≠ [] := by intro e; rw [e] at hlt; simp at hlt
      obtain ⟨x, hx⟩ : ∃ x, xs[i]? = some x := ⟨xs[i], List.getElem?_eq_getElem hlt⟩
      obtain ⟨b, off, eo, -, hbl, hcs⟩ := (HM.out.later HBW.out fun _ _ h => h) hne
      subst eo
      obtain ⟨cs, hlen, hkey, hrd⟩ := hcs i x hx
      obtain ⟨v0, v1, rfl⟩ := two_of hlen
      have q0 := hkey 0 v0 rfl
      have q1 := hkey 1 v1 rfl
      rw [Nat.add_zero] at q0
      have HX := hide hx
      have HRD := hide (coR_later HBW.out h x _ hrd)
      clear hcs hx hne hkey hlen hrd
      have hlt2 : (i : Int) < xs.length := by omega
      go_wp2_with fail
      refine (HE.out x _ _ y hy0 (by omega) HRD.out).mono ?_
      rintro e w1 ⟨r, rfl, hr1, hr2, hb1⟩
      have HR2 := hide hr2
      have HB1 := hide hb1
      clear hr2 hb1
      by_cases hr : r < 0
      · go_wp2
        go_ret
        exact ⟨-1, rfl, by omega, fun h => by omega, HBW.out.trans (HB1.out.mono HBW.out.size)⟩
      · go_wp2
        refine ⟨⟨i + 1, r, by omega, by go_num, rfl, by omega, by omega, ?_, HBW.out.trans (HB1.out.mono HBW.out.size)⟩, by simp [intOf]; omega⟩
        rw [List.take_add_one, HX.out, List.map_append, List.sum_append]
        have h1 := HSUM.out
        have h2 := HR2.out (by omega)
        simp only [Option.toList_some, List.map_cons, List.map_nil, List.sum_cons, List.sum_nil]
        omega
    · go_wp2
      go_ret
      refine ⟨y, rfl, by omega, fun _ => ?_, HBW.out⟩
      have h := HSUM.out
      rw [List.take_of_length_le (by omega)] at h
      exact h

set_option maxHeartbeats 2000000 in
set_option maxRecDepth 100000 in
theorem szData_step {K : Nat → Prop} {h : Nat} (i1 : SzCon K h) : SzData K h := by
  intro x cs w z hz0 hz hrd
  obtain ⟨-, -, -, -, -, o1, c1, rfl, hs, hl, q1⟩ := hrd
  have hs2 : x.s.size ≤ 9223372036854775807 := hs
  have I1 := hide i1
  have Q1 := hide q1
  have HL := hide hl
  clear i1 q1 hs hl
  have HX0 : Hid ((w.alloc (.cells #[.string x.s, .slice o1 x.l.length c1] 91)).heap[w.heap.size]? = some (.cells #[.string x.s, .slice o1 x.l.length c1] 91 (0, 0))) := heap_alloc_new w _
  have HB0 : Hid (Below w.heap.size w (w.alloc (.cells #[.string x.s, .slice o1 x.l.length c1] 91))) := (Below.refl _ w).alloc (Nat.le_refl _) _
  by_cases hn0 : z - x.s.size < 0
  · go_enter Try.func28, Try.ntmps28
    go_wp2
    go_ret
    exact ⟨-1, rfl, by omega, fun h => by omega, HB0.out⟩
  go_enter Try.func28, Try.ntmps28
  go_wp2_with fail
  refine (szConS_of I1.out x.l o1 c1 _ (z - x.s.size) (by omega) (by omega) HL.out.1 (Q1.out.later HB0.out (coR_later HB0.out h))).mono ?_
  rintro e w1 ⟨r1, rfl, hr1, hs1, hb⟩
  have HR1 := hide hs1
  have HB1 := hide (HB0.out.trans (hb.mono HB0.out.size))
  clear hs1 hb
  by_cases hneg1 : r1 < 0
  · go_wp2
    go_ret
    exact ⟨-1, rfl, by omega, fun h => by omega, HB1.out⟩
  go_wp2
  go_ret
  refine ⟨r1, rfl, by omega, fun h0 => ?_, HB1.out⟩
  have a1 := HR1.out (by omega)
  show ((x.s.size + lw (wco h) x.l : Nat) : Int) ≤ z - r1
  omega

set_option maxHeartbeats 2000000 in
set_option maxRecDepth 100000 in
theorem szDataS_of {K : Nat → Prop} {h : Nat} (hE : SzData K h) (xs : List Tr) (o : Option Addr) (cap : Nat) (w : World) (z : Int) (hz0 : 0 ≤ z) (hz : z ≤ 1048576) (hl : xs.length ≤ maxLen) (hm : RowOf K w (daR K w h) 2 o xs) :
    Calls Try.prog 15 #[.slice o xs.length cap, .int .i64 z] w fun e w' => ∃ r : Int, e = .returned (.int .i64 r) ∧ r ≤ z ∧ (0 ≤ r → ((lw (wda h) xs : Nat) : Int) ≤ z - r) ∧ Below w.heap.size w w' := by
  have HM := hide hm
  have HE := hide hE
  have hl2 : xs.length ≤ 9223372036854775807 := hl
  clear hm hE hl
  by_cases hbig : z - xs.length < 0
  · go_enter Try.func15, Try.ntmps15
    go_wp2
    go_ret
    exact ⟨-1, rfl, by omega, fun h => by omega, Below.refl _ _⟩
  go_enter Try.func15, Try.ntmps15
  go_wp2
  go_loopw [1, 5] (fun t1 t5 wr => ∃ (i : Nat) (y : Int), i ≤ xs.length ∧ t5 = .int .i64 i ∧ t1 = .int .i64 y ∧ 0 ≤ y ∧ y ≤ z ∧ ((xs.length + ((xs.take i).map (wda h)).sum : Nat) : Int) ≤ z - y ∧ Below w.heap.size w wr) (fun _ t5 _ => xs.length - (intOf t5).toNat)
  case atStart => exact ⟨0, z - xs.length, Nat.zero_le _, rfl, rfl, by omega, by omega, by simp; omega, Below.refl _ _⟩
  case round =>
    obtain ⟨i, y, hi, rfl, rfl, hy0, hy1, hsum, hbw⟩ := hrel
    have HSUM := hide hsum
    have HBW := hide hbw
    clear hsum hbw
    by_cases hlt : i < xs.length
    · have hne : xs ≠ [] := by intro e; rw [e] at hlt; simp at hlt
      obtain ⟨x, hx⟩ : ∃ x, xs[i]? = some x := ⟨xs[i], List.getElem?_eq_getElem hlt⟩
      obtain ⟨b, off, eo, -, hbl, hcs⟩ := (HM.out.later HBW.out fun _ _ h => h) hne
      subst eo
      obtain ⟨cs, hlen, hkey, hrd⟩ := hcs i x hx
      obtain ⟨v0, v1, rfl⟩ := two_of hlen
      have q0 := hkey 0 v0 rfl
      have q1 := hkey 1 v1 rfl
      rw [Nat.add_zero] at q0
      have HX := hide hx
      have HRD := hide (daR_later HBW.out h x _ hrd)
      clear hcs hx hne hkey hlen hrd
      have hlt2 : (i : Int) < xs.length := by omega
      go_wp2_with fail
      refine (HE.out x _ _ y hy0 (by omega) HRD.out).mono ?_
      rintro e w1 ⟨r, rfl, hr1, hr2, hb1⟩
      have HR2 := hide hr2
      have HB1 := hide hb1
      clear hr2 hb1
      by_cases hr : r < 0
      · go_wp2
        go_ret
        exact ⟨-1, rfl, by omega, fun h => by omega, HBW.out.trans (HB1.out.mono HBW.out.size)⟩
      · go_wp2
        refine ⟨⟨i + 1, r, by omega, by go_num, rfl, by omega, by omega, ?_, HBW.out.trans (HB1.out.mono HBW.out.size)⟩, by simp [intOf]; omega⟩
        rw [List.take_add_one, HX.out, List.map_append, List.sum_append]
        have h1 := HSUM.out
        have h2 := HR2.out (by omega)
        simp only [Option.toList_some, List.map_cons, List.map_nil, List.sum_cons, List.sum_nil]
        omega
    · go_wp2
      go_ret
      refine ⟨y, rfl, by omega, fun _ => ?_, HBW.out⟩
      have h := HSUM.out
      rw [List.take_of_length_le (by omega)] at h
      exact h

set_option maxHeartbeats 2000000 in
set_option maxRecDepth 100000 in
theorem szProg_all (K : Nat → Prop) (h : Nat) : SzProg K h := by
  have i1 : SzData K h := szData_step (szCon_step (szTy_all K h))
  have i2 := (sz_all K h).2.1
  intro x cs w z hz0 hz hrd
  obtain ⟨-, -, -, -, -, o1, c1, o2, c2, rfl, hl, hd, q1, q2⟩ := hrd
  have I1 := hide i1
  have I2 := hide i2
  have Q1 := hide q1
  have Q2 := hide q2
  have HL := hide hl
  have HD := hide hd
  clear i1 i2 q1 q2 hl hd
  have HX0 : Hid ((w.alloc (.cells #[.slice o1 x.l.length c1, .slice o2 x.ds.length c2] 25)).heap[w.heap.size]? = some (.cells #[.slice o1 x.l.length c1, .slice o2 x.ds.length c2] 25 (0, 0))) := heap_alloc_new w _
  have HB0 : Hid (Below w.heap.size w (w.alloc (.cells #[.slice o1 x.l.length c1, .slice o2 x.ds.length c2] 25))) := (Below.refl _ w).alloc (Nat.le_refl _) _
  go_enter Try.func5, Try.ntmps5
  go_wp2_with fail
  refine (szDataS_of I1.out x.l o1 c1 _ z (by omega) (by omega) HL.out.1 (Q1.out.later HB0.out (daR_later HB0.out h))).mono ?_
  rintro e w1 ⟨r1, rfl, hr1, hs1, hb⟩
  have HR1 := hide hs1
  have HB1 := hide (HB0.out.trans (hb.mono HB0.out.size))
  have HX1 := hide ((hb.block w.heap.size (heap_lt HX0.out)).trans HX0.out)
  clear hs1 hb
  by_cases hneg1 : r1 < 0
  · go_wp2
    go_ret
    exact ⟨-1, rfl, by omega, fun h => by omega, HB1.out⟩
  have b1 := cell_of HX1.out 1
  simp only [List.getElem?_toArray, List.getElem?_cons_succ, List.getElem?_cons_zero] at b1
  go_wp2_with fail
  refine (szDecS_of I2.out x.ds o2 c2 _ r1 (by omega) (by omega) HD.out.1 (Q2.out.later HB1.out (reads_later HB1.out h).2.1)).mono ?_
  rintro e w2 ⟨r2, rfl, hr2, hs2, hb⟩
  have HR2 := hide hs2
  have HB2 := hide (HB1.out.trans (hb.mono HB1.out.size))
  clear hs2 hb
  by_cases hneg2 : r2 < 0
  · go_wp2
    go_ret
    exact ⟨-1, rfl, by omega, fun h => by omega, HB2.out⟩
  go_wp2
  go_ret
  refine ⟨r2, rfl, by omega, fun h0 => ?_, HB2.out⟩
  have a1 := HR1.out (by omega)
  have a2 := HR2.out (by omega)
  show ((lw (wda h) x.l + lw (wts h).de x.ds : Nat) : Int) ≤ z - r2
  omega
end Go.Proofs.Yteoghpefilghdal

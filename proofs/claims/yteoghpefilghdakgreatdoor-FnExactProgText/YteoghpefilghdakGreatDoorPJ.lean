/- The program's check of a type. -/
import Derived.Test.YteoghpefilghdakGreatDoorPE
import Derived.Test.YteoghpefilghdakGreatDoorYJ
namespace Go.Proofs.YteoghpefilghdakGreatDoor
open Go.ChangeShapes Go.WideShapes Go.ChangeAt Go.RowKit

set_option maxHeartbeats 400000 in
theorem givenT_any (s : ByteArray) (w : World) : Calls Tryz.prog 89 #[.string s] w fun e w' => e = .returned (.bool (givenT s)) ∧ w' = w := by
  cases ha : (s.toList == [73, 110, 116])
  · have HA := hide ha
    cases hb : (s.toList == [66, 111, 111, 108])
    all_goals
      have HB := hide hb
      go_enter Tryz.func89, Tryz.ntmps89
      go_wp2
      go_ret
      exact ⟨ret_bool (by rw [givenT, HA.out, HB.out]; rfl), rfl⟩
  · have HA := hide ha
    go_enter Tryz.func89, Tryz.ntmps89
    go_wp2
    go_ret
    exact ⟨ret_bool (by rw [givenT, HA.out]; rfl), rfl⟩

set_option maxHeartbeats 400000 in
theorem givenC_any (s : ByteArray) (w : World) : Calls Tryz.prog 90 #[.string s] w fun e w' => e = .returned (.bool (givenC s)) ∧ w' = w := by
  cases ha : (s.toList == [84, 114, 117, 101])
  · have HA := hide ha
    cases hb : (s.toList == [70, 97, 108, 115, 101])
    all_goals
      have HB := hide hb
      go_enter Tryz.func90, Tryz.ntmps90
      go_wp2
      go_ret
      exact ⟨ret_bool (by rw [givenC, HA.out, HB.out]; rfl), rfl⟩
  · have HA := hide ha
    go_enter Tryz.func90, Tryz.ntmps90
    go_wp2
    go_ret
    exact ⟨ret_bool (by rw [givenC, HA.out]; rfl), rfl⟩

set_option maxHeartbeats 400000 in
theorem ownGreat_any (s : ByteArray) (w : World) (hs : s.size ≤ maxLen) : Calls Tryz.prog 61 #[.string s] w fun e w' => e = .returned (.bool (ownB s)) ∧ Below w.heap.size w w' := by
  cases hg : grB s
  · have HG : Hid (greatB s.data.toList = false) := hg
    have HG2 := hide hg
    clear hg
    go_enter Tryz.func61, Tryz.ntmps61
    go_wp2_with fail
    refine (implGreat_any _ _ hs).mono ?_
    rintro e w1 ⟨rfl, hb⟩
    rw [HG.out]
    have HB := hide hb
    clear hb
    go_wp2
    go_ret
    exact ⟨ret_bool (by rw [ownB, HG2.out]; rfl), HB.out⟩
  have HG : Hid (greatB s.data.toList = true) := hg
  have HG2 := hide hg
  clear hg
  cases ht : givenT s
  all_goals
    have HT := hide ht
    clear ht
    go_enter Tryz.func61, Tryz.ntmps61
    go_wp2_with fail
    refine (implGreat_any _ _ hs).mono ?_
    rintro e w1 ⟨rfl, hb⟩
    rw [HG.out]
    have HB := hide hb
    clear hb
    go_wp2_with fail
    refine (givenT_any _ _).mono ?_
    rintro e w2 ⟨rfl, rfl⟩
    rw [HT.out]
  · go_wp2_with fail
    refine (givenC_any _ _).mono ?_
    rintro e w2 ⟨rfl, rfl⟩
    go_wp2
    go_ret
    exact ⟨ret_bool (by rw [ownB, HG2.out, HT.out]; simp), HB.out⟩
  · go_wp2
    go_ret
    exact ⟨ret_bool (by rw [ownB, HG2.out, HT.out]; rfl), HB.out⟩

def TCtr (w : World) (cb : Nat) (n : Int) : Prop := w.heap[cb]? = some (.cells #[.int .i64 n] 190 (0, 0))
theorem TCtr.later {w w' : World} {cb : Nat} {n : Int} (h : TCtr w cb n) (hb : Below w.heap.size w w') : TCtr w' cb n := (hb.block cb (heap_lt h)).trans h
theorem TCtr.set {w : World} {cb : Nat} {n m : Int} (h : TCtr w cb n) : TCtr (w.setCell ⟨cb, 0, none⟩ (.int .i64 m)) cb m := heap_set_same _ h
def TRes (cb n : Nat) (w : World) (ok : Bool) (c : Nat) (e : Ending) (w' : World) : Prop := ∃ n' : Nat, e = .returned (.bool ok) ∧ TCtr w' cb n' ∧ (ok = true → n' = n + c) ∧ Kp w.heap.size cb w w'
def ChTy (h : Nat) : Prop := ∀ (x : Tr) (cs : List Value) (w : World) (cb n : Nat) (d : Int), tyR (NeK cb) w h x cs → TCtr w cb n → n ≤ 10 → 0 ≤ d → d ≤ 7 → Calls Tryz.prog 120 #[.pointer (some ⟨cb, 0, none⟩), .agg cs.toArray, .int .i64 d] w (TRes cb n w (tyB h x d && decide (n + tyN h x ≤ 10)) (tyN h x))
theorem ty_no {h n : Nat} {x : Tr} {d : Int} (hh : tyHere x d = false) : (tyB (h + 1) x d && decide (n + tyN (h + 1) x ≤ 10)) = false := by
  show ((tyHere x d && _) && _) = false
  rw [hh]
  rfl
theorem ty_full {h n : Nat} {x : Tr} {d : Int} (hn : n = 10) : (tyB (h + 1) x d && decide (n + tyN (h + 1) x ≤ 10)) = false := by
  have : 1 ≤ tyN (h + 1) x := by show 1 ≤ 1 + sumZ (tyN h) x.l; omega
  rw [decide_eq_false (by omega), Bool.and_false]
theorem ty_leaf {h n : Nat} {x : Tr} {d : Int} (hl : x.l.length = 0) (hn : n < 10) : (tyB (h + 1) x d && decide (n + tyN (h + 1) x ≤ 10)) = tyHere x d ∧ tyN (h + 1) x = 1 := by
  have e : tyN (h + 1) x = 1 := by
    show 1 + sumZ (tyN h) x.l = 1
    rw [List.length_eq_zero_iff.1 hl]
    rfl
  refine ⟨?_, e⟩
  rw [e, decide_eq_true (by omega), Bool.and_true]
  show (tyHere x d && allZ (tyB h) x.l (d + 1)) = _
  rw [List.length_eq_zero_iff.1 hl]
  exact Bool.and_true _

set_option maxHeartbeats 1000000 in
set_option maxRecDepth 100000 in
theorem tyOk_first {h : Nat} (x : Tr) (o : Option Addr) (c : Nat) (w : World) (cb n : Nat) (d : Int) (hc : TCtr w cb n) (hn : n ≤ 10) (hbad : n = 10 ∨ 6 < d ∨ x.n ≠ 0) :
    Calls Tryz.prog 120 #[.pointer (some ⟨cb, 0, none⟩), .agg #[.int .i64 x.k, .string x.s, .int .i64 x.n, .slice o x.l.length c], .int .i64 d] w (TRes cb n w (tyB (h + 1) x d && decide (n + tyN (h + 1) x ≤ 10)) (tyN (h + 1) x)) := by
  have hcb : cb < w.heap.size := heap_lt hc
  have b0 := cell_of hc 0
  have f0 := frozen_of hc 0
  simp only [List.getElem?_toArray, List.getElem?_cons_zero] at b0
  have HKS : Hid (Kp w.heap.size cb w ((w.setCell ⟨cb, 0, none⟩ (.int .i64 (n + 1))).alloc (.cells #[.int .i64 x.k, .string x.s, .int .i64 x.n, .slice o x.l.length c] 81))) := (kp_set w.heap.size cb w _).trans (Kp.of (((Below.refl _ (w.setCell ⟨cb, 0, none⟩ (.int .i64 (n + 1)))).alloc (Nat.le_refl _) _).mono (by simp)))
  have HCS : Hid (TCtr ((w.setCell ⟨cb, 0, none⟩ (.int .i64 (n + 1))).alloc (.cells #[.int .i64 x.k, .string x.s, .int .i64 x.n, .slice o x.l.length c] 81)) cb ((n + 1 : Nat) : Int)) := (hc.set (m := ((n + 1 : Nat) : Int))).later ((Below.refl _ _).alloc (Nat.le_refl _) _)
  have HXS : Hid (((w.setCell ⟨cb, 0, none⟩ (.int .i64 (n + 1))).alloc (.cells #[.int .i64 x.k, .string x.s, .int .i64 x.n, .slice o x.l.length c] 81)).heap[w.heap.size]? = some (.cells #[.int .i64 x.k, .string x.s, .int .i64 x.n, .slice o x.l.length c] 81 (0, 0))) := by
    have h9 := heap_alloc_new (w.setCell ⟨cb, 0, none⟩ (.int .i64 (n + 1))) (.cells #[.int .i64 x.k, .string x.s, .int .i64 x.n, .slice o x.l.length c] 81)
    have h8 : (w.setCell ⟨cb, 0, none⟩ (.int .i64 (n + 1))).heap.size = w.heap.size := by simp
    rw [h8] at h9
    exact h9
  clear hc
  by_cases h10 : n = 10
  · have HF := hide (ty_full (h := h) (x := x) (d := d) h10)
    subst h10
    go_enter Tryz.func120, Tryz.ntmps120
    go_wp2
    go_ret
    exact ⟨10 + 1, ret_bool (HF.out).symm, HCS.out, (fun hx => by rw [HF.out] at hx; cases hx), HKS.out⟩
  by_cases hd : 6 < d
  · have HF := hide (ty_no (h := h) (n := n) (tyh_deep (t := x) hd))
    go_enter Tryz.func120, Tryz.ntmps120
    go_wp2
    go_ret
    exact ⟨n + 1, ret_bool (HF.out).symm, HCS.out, (fun hx => by rw [HF.out] at hx; cases hx), HKS.out⟩
  have hx : x.n ≠ 0 := by omega
  have HF := hide (ty_no (h := h) (n := n) (tyh_n (d := d) hx))
  have hn2 : (x.n != 0) = true := by simpa using hx
  have hn3 : (x.n == 0) = false := by simpa using hx
  clear hx hbad
  go_enter Tryz.func120, Tryz.ntmps120
  go_wp2
  go_ret
  exact ⟨n + 1, ret_bool (HF.out).symm, HCS.out, (fun hx => by rw [HF.out] at hx; cases hx), HKS.out⟩

set_option maxHeartbeats 1000000 in
set_option maxRecDepth 100000 in
theorem tyOk_12 {h : Nat} (x : Tr) (o : Option Addr) (c : Nat) (w : World) (cb n : Nat) (d : Int) (hc : TCtr w cb n) (hn : n < 10) (hd : d ≤ 6) (hx : x.n = 0) (hk12 : x.k = 1 ∨ x.k = 2) :
    Calls Tryz.prog 120 #[.pointer (some ⟨cb, 0, none⟩), .agg #[.int .i64 x.k, .string x.s, .int .i64 x.n, .slice o x.l.length c], .int .i64 d] w (TRes cb n w (tyB (h + 1) x d && decide (n + tyN (h + 1) x ≤ 10)) (tyN (h + 1) x)) := by
  have hcb : cb < w.heap.size := heap_lt hc
  have b0 := cell_of hc 0
  have f0 := frozen_of hc 0
  simp only [List.getElem?_toArray, List.getElem?_cons_zero] at b0
  have HKS : Hid (Kp w.heap.size cb w ((w.setCell ⟨cb, 0, none⟩ (.int .i64 (n + 1))).alloc (.cells #[.int .i64 x.k, .string x.s, .int .i64 x.n, .slice o x.l.length c] 81))) := (kp_set w.heap.size cb w _).trans (Kp.of (((Below.refl _ (w.setCell ⟨cb, 0, none⟩ (.int .i64 (n + 1)))).alloc (Nat.le_refl _) _).mono (by simp)))
  have HCS : Hid (TCtr ((w.setCell ⟨cb, 0, none⟩ (.int .i64 (n + 1))).alloc (.cells #[.int .i64 x.k, .string x.s, .int .i64 x.n, .slice o x.l.length c] 81)) cb ((n + 1 : Nat) : Int)) := (hc.set (m := ((n + 1 : Nat) : Int))).later ((Below.refl _ _).alloc (Nat.le_refl _) _)
  have HXS : Hid (((w.setCell ⟨cb, 0, none⟩ (.int .i64 (n + 1))).alloc (.cells #[.int .i64 x.k, .string x.s, .int .i64 x.n, .slice o x.l.length c] 81)).heap[w.heap.size]? = some (.cells #[.int .i64 x.k, .string x.s, .int .i64 x.n, .slice o x.l.length c] 81 (0, 0))) := by
    have h9 := heap_alloc_new (w.setCell ⟨cb, 0, none⟩ (.int .i64 (n + 1))) (.cells #[.int .i64 x.k, .string x.s, .int .i64 x.n, .slice o x.l.length c] 81)
    have h8 : (w.setCell ⟨cb, 0, none⟩ (.int .i64 (n + 1))).heap.size = w.heap.size := by simp
    rw [h8] at h9
    exact h9
  clear hc
  have HT := hide (tyh_12 (d := d) hd hx hk12)
  have hn2 : (x.n != 0) = false := by simpa using hx
  have hn3 : (x.n == 0) = true := by simpa using hx
  have HN := hide hx
  clear hx
  have hk1 : (x.k == 1) = true ∨ ((x.k == 1) = false ∧ (x.k == 2) = true) := by
    rcases hk12 with h | h
    · exact Or.inl (by rw [h]; rfl)
    · exact Or.inr ⟨by rw [h]; rfl, by rw [h]; rfl⟩
  clear hk12
  cases hem : emptyB x.s
  · have HE := hide hem
    have hs3 : (x.s.toList == []) = false := hem
    have HF := hide (ty_no (h := h) (n := n) (x := x) (d := d) (by rw [HT.out, hem]; rfl))
    clear hem
    rcases hk1 with e1 | ⟨e1, e2⟩
    all_goals
      go_enter Tryz.func120, Tryz.ntmps120
      go_wp2
      go_ret
      exact ⟨n + 1, ret_bool (HF.out).symm, HCS.out, (fun hx => by rw [HF.out] at hx; cases hx), HKS.out⟩
  have HE := hide hem
  have hs3 : (x.s.toList == []) = true := hem
  clear hem
  by_cases hl : x.l.length = 0
  · have h2 : (x.l.length == 0) = true := by simpa using hl
    have h3 : ((x.l.length : Int) == 0) = true := by simpa using hl
    have HLF := hide (ty_leaf (h := h) (x := x) (d := d) hl hn)
    have HOK : Hid (tyHere x d = true) := by show tyHere x d = true; rw [HT.out, HE.out, decide_eq_true hl]; rfl
    clear hl
    rcases hk1 with e1 | ⟨e1, e2⟩
    all_goals
      go_enter Tryz.func120, Tryz.ntmps120
      go_wp2
      go_ret
      exact ⟨n + 1, ret_bool (by rw [HLF.out.1, HOK.out]), HCS.out, (fun _ => by rw [HLF.out.2]), HKS.out⟩
  have h2 : (x.l.length == 0) = false := by simpa using hl
  have h3 : ((x.l.length : Int) == 0) = false := by simpa using hl
  have HF := hide (ty_no (h := h) (n := n) (x := x) (d := d) (by rw [HT.out, decide_eq_false hl, Bool.and_false]))
  clear hl
  rcases hk1 with e1 | ⟨e1, e2⟩
  all_goals
    go_enter Tryz.func120, Tryz.ntmps120
    go_wp2
    go_ret
    exact ⟨n + 1, ret_bool (HF.out).symm, HCS.out, (fun hx => by rw [HF.out] at hx; cases hx), HKS.out⟩

set_option maxHeartbeats 1000000 in
set_option maxRecDepth 100000 in
theorem tyOk_3 {h : Nat} (x : Tr) (o : Option Addr) (c : Nat) (w : World) (cb n : Nat) (d : Int) (hc : TCtr w cb n) (hn : n < 10) (hd : d ≤ 6) (hx : x.n = 0) (hs : x.s.size ≤ maxLen) (hk : x.k = 3) :
    Calls Tryz.prog 120 #[.pointer (some ⟨cb, 0, none⟩), .agg #[.int .i64 x.k, .string x.s, .int .i64 x.n, .slice o x.l.length c], .int .i64 d] w (TRes cb n w (tyB (h + 1) x d && decide (n + tyN (h + 1) x ≤ 10)) (tyN (h + 1) x)) := by
  have hcb : cb < w.heap.size := heap_lt hc
  have b0 := cell_of hc 0
  have f0 := frozen_of hc 0
  simp only [List.getElem?_toArray, List.getElem?_cons_zero] at b0
  have HKS : Hid (Kp w.heap.size cb w ((w.setCell ⟨cb, 0, none⟩ (.int .i64 (n + 1))).alloc (.cells #[.int .i64 x.k, .string x.s, .int .i64 x.n, .slice o x.l.length c] 81))) := (kp_set w.heap.size cb w _).trans (Kp.of (((Below.refl _ (w.setCell ⟨cb, 0, none⟩ (.int .i64 (n + 1)))).alloc (Nat.le_refl _) _).mono (by simp)))
  have HCS : Hid (TCtr ((w.setCell ⟨cb, 0, none⟩ (.int .i64 (n + 1))).alloc (.cells #[.int .i64 x.k, .string x.s, .int .i64 x.n, .slice o x.l.length c] 81)) cb ((n + 1 : Nat) : Int)) := (hc.set (m := ((n + 1 : Nat) : Int))).later ((Below.refl _ _).alloc (Nat.le_refl _) _)
  have HXS : Hid (((w.setCell ⟨cb, 0, none⟩ (.int .i64 (n + 1))).alloc (.cells #[.int .i64 x.k, .string x.s, .int .i64 x.n, .slice o x.l.length c] 81)).heap[w.heap.size]? = some (.cells #[.int .i64 x.k, .string x.s, .int .i64 x.n, .slice o x.l.length c] 81 (0, 0))) := by
    have h9 := heap_alloc_new (w.setCell ⟨cb, 0, none⟩ (.int .i64 (n + 1))) (.cells #[.int .i64 x.k, .string x.s, .int .i64 x.n, .slice o x.l.length c] 81)
    have h8 : (w.setCell ⟨cb, 0, none⟩ (.int .i64 (n + 1))).heap.size = w.heap.size := by simp
    rw [h8] at h9
    exact h9
  clear hc
  have HT := hide (tyh_3 (d := d) hd hx hk)
  have HS := hide hs
  clear hs
  have hn2 : (x.n != 0) = false := by simpa using hx
  have hn3 : (x.n == 0) = true := by simpa using hx
  have HN := hide hx
  clear hx
  have e1 : (x.k == 1) = false := by rw [hk]; rfl
  have e2 : (x.k == 2) = false := by rw [hk]; rfl
  have e3 : (x.k == 3) = true := by rw [hk]; rfl
  have e4 : (x.k == 4) = false := by rw [hk]; rfl
  have HK := hide hk
  clear hk
  cases hg : grB x.s
  · have HG : Hid (greatB x.s.data.toList = false) := hg
    have HF := hide (ty_no (h := h) (n := n) (x := x) (d := d) (by rw [HT.out, tyNm, hg]; rfl))
    clear hg
    go_enter Tryz.func120, Tryz.ntmps120
    go_wp2_with fail
    refine (implGreat_any _ _ HS.out).mono ?_
    rintro e w1 ⟨rfl, hb⟩
    rw [HG.out]
    have HK1 := hide (HKS.out.then hb)
    have HC1 := hide (HCS.out.later hb)
    have HX1 := hide ((hb.block w.heap.size (heap_lt HXS.out)).trans HXS.out)
    clear hb
    have y1 := cell_of HX1.out 1
    have y3 := cell_of HX1.out 3
    simp only [List.getElem?_toArray, List.getElem?_cons_succ, List.getElem?_cons_zero] at y1 y3
    go_wp2
    go_ret
    exact ⟨n + 1, ret_bool (HF.out).symm, HC1.out, (fun hx => by rw [HF.out] at hx; cases hx), HK1.out⟩
  have HG : Hid (greatB x.s.data.toList = true) := hg
  have HG2 := hide hg
  clear hg
  cases hgt : givenT x.s
  case true =>
    have HGT := hide hgt
    have HF := hide (ty_no (h := h) (n := n) (x := x) (d := d) (by rw [HT.out, tyNm, hgt, Bool.not_true, Bool.and_false]; rfl))
    clear hgt
    go_enter Tryz.func120, Tryz.ntmps120
    go_wp2_with fail
    refine (implGreat_any _ _ HS.out).mono ?_
    rintro e w1 ⟨rfl, hb⟩
    rw [HG.out]
    have HK1 := hide (HKS.out.then hb)
    have HC1 := hide (HCS.out.later hb)
    have HX1 := hide ((hb.block w.heap.size (heap_lt HXS.out)).trans HXS.out)
    clear hb
    have y1 := cell_of HX1.out 1
    have y3 := cell_of HX1.out 3
    simp only [List.getElem?_toArray, List.getElem?_cons_succ, List.getElem?_cons_zero] at y1 y3
    go_wp2_with fail
    refine (givenT_any _ _).mono ?_
    rintro e w2 ⟨rfl, rfl⟩
    rw [HGT.out]
    go_wp2
    go_ret
    exact ⟨n + 1, ret_bool (HF.out).symm, HC1.out, (fun hx => by rw [HF.out] at hx; cases hx), HK1.out⟩
  have HGT := hide hgt
  clear hgt
  by_cases hl : x.l.length = 0
  · have h2 : (x.l.length == 0) = true := by simpa using hl
    have h3 : ((x.l.length : Int) == 0) = true := by simpa using hl
    have HLF := hide (ty_leaf (h := h) (x := x) (d := d) hl hn)
    have HOK : Hid (tyHere x d = true) := by show tyHere x d = true; rw [HT.out, tyNm, HG2.out, HGT.out, decide_eq_true hl]; rfl
    clear hl
    go_enter Tryz.func120, Tryz.ntmps120
    go_wp2_with fail
    refine (implGreat_any _ _ HS.out).mono ?_
    rintro e w1 ⟨rfl, hb⟩
    rw [HG.out]
    have HK1 := hide (HKS.out.then hb)
    have HC1 := hide (HCS.out.later hb)
    have HX1 := hide ((hb.block w.heap.size (heap_lt HXS.out)).trans HXS.out)
    clear hb
    have y1 := cell_of HX1.out 1
    have y3 := cell_of HX1.out 3
    simp only [List.getElem?_toArray, List.getElem?_cons_succ, List.getElem?_cons_zero] at y1 y3
    go_wp2_with fail
    refine (givenT_any _ _).mono ?_
    rintro e w2 ⟨rfl, rfl⟩
    rw [HGT.out]
    go_wp2
    go_ret
    exact ⟨n + 1, ret_bool (by rw [HLF.out.1, HOK.out]), HC1.out, (fun _ => by rw [HLF.out.2]), HK1.out⟩
  · have h2 : (x.l.length == 0) = false := by simpa using hl
    have h3 : ((x.l.length : Int) == 0) = false := by simpa using hl
    have HF := hide (ty_no (h := h) (n := n) (x := x) (d := d) (by rw [HT.out, decide_eq_false hl, Bool.and_false]))
    clear hl
    go_enter Tryz.func120, Tryz.ntmps120
    go_wp2_with fail
    refine (implGreat_any _ _ HS.out).mono ?_
    rintro e w1 ⟨rfl, hb⟩
    rw [HG.out]
    have HK1 := hide (HKS.out.then hb)
    have HC1 := hide (HCS.out.later hb)
    have HX1 := hide ((hb.block w.heap.size (heap_lt HXS.out)).trans HXS.out)
    clear hb
    have y1 := cell_of HX1.out 1
    have y3 := cell_of HX1.out 3
    simp only [List.getElem?_toArray, List.getElem?_cons_succ, List.getElem?_cons_zero] at y1 y3
    go_wp2_with fail
    refine (givenT_any _ _).mono ?_
    rintro e w2 ⟨rfl, rfl⟩
    rw [HGT.out]
    go_wp2
    go_ret
    exact ⟨n + 1, ret_bool (HF.out).symm, HC1.out, (fun hx => by rw [HF.out] at hx; cases hx), HK1.out⟩

set_option maxHeartbeats 1000000 in
set_option maxRecDepth 100000 in
theorem tyOk_4 {h : Nat} (ih : ChTy h) (x : Tr) (o : Option Addr) (c : Nat) (w : World) (cb n : Nat) (d : Int) (hc : TCtr w cb n) (hn : n < 10) (hd : d ≤ 6) (hx : x.n = 0) (hd0 : 0 ≤ d) (hk : x.k = 4) (hrow : RowOf (NeK cb) w (tyR (NeK cb) w h) 4 o x.l) :
    Calls Tryz.prog 120 #[.pointer (some ⟨cb, 0, none⟩), .agg #[.int .i64 x.k, .string x.s, .int .i64 x.n, .slice o x.l.length c], .int .i64 d] w (TRes cb n w (tyB (h + 1) x d && decide (n + tyN (h + 1) x ≤ 10)) (tyN (h + 1) x)) := by
  have hcb : cb < w.heap.size := heap_lt hc
  have b0 := cell_of hc 0
  have f0 := frozen_of hc 0
  simp only [List.getElem?_toArray, List.getElem?_cons_zero] at b0
  have HKS : Hid (Kp w.heap.size cb w ((w.setCell ⟨cb, 0, none⟩ (.int .i64 (n + 1))).alloc (.cells #[.int .i64 x.k, .string x.s, .int .i64 x.n, .slice o x.l.length c] 81))) := (kp_set w.heap.size cb w _).trans (Kp.of (((Below.refl _ (w.setCell ⟨cb, 0, none⟩ (.int .i64 (n + 1)))).alloc (Nat.le_refl _) _).mono (by simp)))
  have HCS : Hid (TCtr ((w.setCell ⟨cb, 0, none⟩ (.int .i64 (n + 1))).alloc (.cells #[.int .i64 x.k, .string x.s, .int .i64 x.n, .slice o x.l.length c] 81)) cb ((n + 1 : Nat) : Int)) := (hc.set (m := ((n + 1 : Nat) : Int))).later ((Below.refl _ _).alloc (Nat.le_refl _) _)
  have HXS : Hid (((w.setCell ⟨cb, 0, none⟩ (.int .i64 (n + 1))).alloc (.cells #[.int .i64 x.k, .string x.s, .int .i64 x.n, .slice o x.l.length c] 81)).heap[w.heap.size]? = some (.cells #[.int .i64 x.k, .string x.s, .int .i64 x.n, .slice o x.l.length c] 81 (0, 0))) := by
    have h9 := heap_alloc_new (w.setCell ⟨cb, 0, none⟩ (.int .i64 (n + 1))) (.cells #[.int .i64 x.k, .string x.s, .int .i64 x.n, .slice o x.l.length c] 81)
    have h8 : (w.setCell ⟨cb, 0, none⟩ (.int .i64 (n + 1))).heap.size = w.heap.size := by simp
    rw [h8] at h9
    exact h9
  clear hc
  have HT := hide (tyh_4 (d := d) hd hx hk)
  have IH := hide ih
  have HRW := hide (hrow.frame HKS.out.stays (fun _ h => h) (tyR_frame HKS.out.stays (fun _ h => h) h))
  clear ih hrow
  have hn2 : (x.n != 0) = false := by simpa using hx
  have hn3 : (x.n == 0) = true := by simpa using hx
  have HN := hide hx
  clear hx
  have e1 : (x.k == 1) = false := by rw [hk]; rfl
  have e2 : (x.k == 2) = false := by rw [hk]; rfl
  have e3 : (x.k == 3) = false := by rw [hk]; rfl
  have e4 : (x.k == 4) = true := by rw [hk]; rfl
  have HK := hide hk
  clear hk
  cases hem : emptyB x.s
  · have hs3 : (x.s.toList == []) = false := hem
    have HF := hide (ty_no (h := h) (n := n) (x := x) (d := d) (by rw [HT.out, hem]; rfl))
    clear hem
    go_enter Tryz.func120, Tryz.ntmps120
    go_wp2
    go_ret
    exact ⟨n + 1, ret_bool (HF.out).symm, HCS.out, (fun hx => by rw [HF.out] at hx; cases hx), HKS.out⟩
  have HE := hide hem
  have hs3 : (x.s.toList == []) = true := hem
  clear hem
  by_cases hl : x.l.length = 2
  case neg =>
    have h2 : (x.l.length == 2) = false := by simpa using hl
    have h3 : ((x.l.length : Int) == 2) = false := by rw [beq_eq_false_iff_ne]; omega
    have HF := hide (ty_no (h := h) (n := n) (x := x) (d := d) (by rw [HT.out, decide_eq_false hl, Bool.and_false]))
    clear hl
    go_enter Tryz.func120, Tryz.ntmps120
    go_wp2
    go_ret
    exact ⟨n + 1, ret_bool (HF.out).symm, HCS.out, (fun hx => by rw [HF.out] at hx; cases hx), HKS.out⟩
  obtain ⟨a, b, hab⟩ : ∃ a b, x.l = [a, b] := by
    match h9 : x.l, hl with
    | [a, b], _ => exact ⟨a, b, rfl⟩
  have HB1 : Hid (tyB (h + 1) x d = (tyB h a (d + 1) && tyB h b (d + 1))) := by
    show (tyHere x d && allZ (tyB h) x.l (d + 1)) = _
    rw [HT.out, HE.out, decide_eq_true hl, hab]
    simp [allZ]
  have HN1 : Hid (tyN (h + 1) x = 1 + (tyN h a + tyN h b)) := by
    show 1 + sumZ (tyN h) x.l = _
    rw [hab]
    simp [sumZ]
  rw [hl] at HKS HCS HXS HRW ⊢
  have hrw := HRW.out
  obtain ⟨bb, off, eo, hnk, hbl, hcs⟩ := hrw (by rw [hab]; simp)
  subst eo
  obtain ⟨ca, lA, kA, rA⟩ := hcs 0 a (by rw [hab]; rfl)
  obtain ⟨cb2, lB, kB, rB⟩ := hcs 1 b (by rw [hab]; rfl)
  obtain ⟨oa, ga, rfl⟩ := ty_form rA
  obtain ⟨ob, gb, rfl⟩ := ty_form rB
  have h2 : (x.l.length == 2) = true := by simpa using hl
  have h3 : ((x.l.length : Int) == 2) = true := by rw [beq_iff_eq]; omega
  have RA := hide rA
  have RB := hide rB
  have qa0 := kA 0 _ rfl
  have qb0 := kB 0 _ rfl
  have qa1 := kA 1 _ rfl
  have qb1 := kB 1 _ rfl
  have qa2 := kA 2 _ rfl
  have qb2 := kB 2 _ rfl
  have qa3 := kA 3 _ rfl
  have qb3 := kB 3 _ rfl
  simp only [Nat.zero_mul, Nat.one_mul, Nat.add_zero] at qa0 qa1 qa2 qa3 qb0 qb1 qb2 qb3
  have HKN : Hid (bb ≠ cb) := hnk
  clear rA rB kA kB hcs hrw lA lB hab hl hnk
  go_enter Tryz.func120, Tryz.ntmps120
  go_wp2_with fail
  refine (IH.out a _ _ cb (n + 1) (d + 1) RA.out HCS.out (by omega) (by omega) (by omega)).mono ?_
  rintro e w1 ⟨n1, rfl, hc1, hn1, hk1⟩
  have HC1 := hide hc1
  have HN2 := hide hn1
  have HK1 := hide (HKS.out.on hk1)
  have HX1 := hide ((hk1.block w.heap.size (heap_lt HXS.out) (by omega)).trans HXS.out)
  have mm : ∀ j u, ((w.setCell ⟨cb, 0, none⟩ (.int .i64 (n + 1))).alloc (.cells #[.int .i64 x.k, .string x.s, .int .i64 x.n, .slice (some ⟨bb, off, none⟩) 2 c] 81)).cell? ⟨bb, j, none⟩ = some u → w1.cell? ⟨bb, j, none⟩ = some u := fun j u hu => (World.cell?_of_block (a := ⟨bb, j, none⟩) (hk1.block bb hbl HKN.out)).trans hu
  have mb0 := mm (off + 4) _ qb0
  have mb1 := mm (off + 4 + 1) _ qb1
  have mb2 := mm (off + 4 + 2) _ qb2
  have mb3 := mm (off + 4 + 3) _ qb3
  have HRB := hide (tyR_frame hk1.stays (fun _ h => h) h _ _ RB.out)
  clear hc1 hn1 hk1 qa0 qa1 qa2 qa3 qb0 qb1 qb2 qb3 mm
  cases hr : (tyB h a (d + 1) && decide (n + 1 + tyN h a ≤ 10))
  · have HR := hide hr
    have HF : Hid ((tyB (h + 1) x d && decide (n + tyN (h + 1) x ≤ 10)) = false) := by
      show (tyB (h + 1) x d && decide (n + tyN (h + 1) x ≤ 10)) = false
      rw [HB1.out, HN1.out]
      rw [Bool.and_eq_false_iff] at hr
      rcases hr with h9 | h9
      · rw [h9]; rfl
      · have := of_decide_eq_false h9
        rw [decide_eq_false (by omega), Bool.and_false]
    clear hr
    go_wp2
    go_ret
    exact ⟨n1, ret_bool (HF.out).symm, HC1.out, (fun hx => by rw [HF.out] at hx; cases hx), HK1.out⟩
  have hr2 := hr
  rw [Bool.and_eq_true] at hr2
  have hle := of_decide_eq_true hr2.2
  have HTA := hide hr2.1
  have he1 := HN2.out hr
  have HR := hide hr
  clear hr hr2
  subst he1
  have y3 := cell_of HX1.out 3
  simp only [List.getElem?_toArray, List.getElem?_cons_succ, List.getElem?_cons_zero] at y3
  go_wp2_with fail
  refine (IH.out b _ _ cb (n + 1 + tyN h a) (d + 1) HRB.out HC1.out (by omega) (by omega) (by omega)).mono ?_
  rintro e w2 ⟨n2, rfl, hc2, hn2, hk2⟩
  have HC2 := hide hc2
  have HN3 := hide hn2
  have HK2 := hide (HK1.out.on hk2)
  clear hc2 hn2 hk2
  have HEQ : Hid ((tyB h b (d + 1) && decide (n + 1 + tyN h a + tyN h b ≤ 10)) = (tyB (h + 1) x d && decide (n + tyN (h + 1) x ≤ 10))) := by
    show _ = (tyB (h + 1) x d && decide (n + tyN (h + 1) x ≤ 10))
    rw [HB1.out, HN1.out, HTA.out, show n + (1 + (tyN h a + tyN h b)) = n + 1 + tyN h a + tyN h b by omega]
    rfl
  go_wp2
  go_ret
  refine ⟨n2, ret_bool HEQ.out, HC2.out, fun hx => ?_, HK2.out⟩
  rw [HN3.out (HEQ.out.trans hx), HN1.out]
  omega

set_option maxHeartbeats 1000000 in
set_option maxRecDepth 100000 in
theorem tyOk_no {h : Nat} (x : Tr) (o : Option Addr) (c : Nat) (w : World) (cb n : Nat) (d : Int) (hc : TCtr w cb n) (hn : n < 10) (hd : d ≤ 6) (hx : x.n = 0) (hk : ¬ (x.k = 1 ∨ x.k = 2 ∨ x.k = 3 ∨ x.k = 4)) :
    Calls Tryz.prog 120 #[.pointer (some ⟨cb, 0, none⟩), .agg #[.int .i64 x.k, .string x.s, .int .i64 x.n, .slice o x.l.length c], .int .i64 d] w (TRes cb n w (tyB (h + 1) x d && decide (n + tyN (h + 1) x ≤ 10)) (tyN (h + 1) x)) := by
  have hcb : cb < w.heap.size := heap_lt hc
  have b0 := cell_of hc 0
  have f0 := frozen_of hc 0
  simp only [List.getElem?_toArray, List.getElem?_cons_zero] at b0
  have HKS : Hid (Kp w.heap.size cb w ((w.setCell ⟨cb, 0, none⟩ (.int .i64 (n + 1))).alloc (.cells #[.int .i64 x.k, .string x.s, .int .i64 x.n, .slice o x.l.length c] 81))) := (kp_set w.heap.size cb w _).trans (Kp.of (((Below.refl _ (w.setCell ⟨cb, 0, none⟩ (.int .i64 (n + 1)))).alloc (Nat.le_refl _) _).mono (by simp)))
  have HCS : Hid (TCtr ((w.setCell ⟨cb, 0, none⟩ (.int .i64 (n + 1))).alloc (.cells #[.int .i64 x.k, .string x.s, .int .i64 x.n, .slice o x.l.length c] 81)) cb ((n + 1 : Nat) : Int)) := (hc.set (m := ((n + 1 : Nat) : Int))).later ((Below.refl _ _).alloc (Nat.le_refl _) _)
  have HXS : Hid (((w.setCell ⟨cb, 0, none⟩ (.int .i64 (n + 1))).alloc (.cells #[.int .i64 x.k, .string x.s, .int .i64 x.n, .slice o x.l.length c] 81)).heap[w.heap.size]? = some (.cells #[.int .i64 x.k, .string x.s, .int .i64 x.n, .slice o x.l.length c] 81 (0, 0))) := by
    have h9 := heap_alloc_new (w.setCell ⟨cb, 0, none⟩ (.int .i64 (n + 1))) (.cells #[.int .i64 x.k, .string x.s, .int .i64 x.n, .slice o x.l.length c] 81)
    have h8 : (w.setCell ⟨cb, 0, none⟩ (.int .i64 (n + 1))).heap.size = w.heap.size := by simp
    rw [h8] at h9
    exact h9
  clear hc
  have HF := hide (ty_no (h := h) (n := n) (tyh_no (t := x) (d := d) hk))
  have hn2 : (x.n != 0) = false := by simpa using hx
  have hn3 : (x.n == 0) = true := by simpa using hx
  have HN := hide hx
  clear hx
  have e1 : (x.k == 1) = false := by rw [beq_eq_false_iff_ne]; omega
  have e2 : (x.k == 2) = false := by rw [beq_eq_false_iff_ne]; omega
  have e3 : (x.k == 3) = false := by rw [beq_eq_false_iff_ne]; omega
  have e4 : (x.k == 4) = false := by rw [beq_eq_false_iff_ne]; omega
  clear hk
  go_enter Tryz.func120, Tryz.ntmps120
  go_wp2
  go_ret
  exact ⟨n + 1, ret_bool (HF.out).symm, HCS.out, (fun hx => by rw [HF.out] at hx; cases hx), HKS.out⟩

theorem tyOk_all (h : Nat) : ChTy h := by
  induction h with
  | zero => exact fun _ _ _ _ _ _ hr => hr.elim
  | succ h ih =>
    intro x cs w cb n d hr hc hn hd0 hd7
    obtain ⟨-, -, -, o, c, rfl, hs, hf, hrow⟩ := hr
    by_cases hbad : n = 10 ∨ 6 < d ∨ x.n ≠ 0
    · exact tyOk_first x o c w cb n d hc hn hbad
    have hn2 : n < 10 := by omega
    have hd : d ≤ 6 := by omega
    have hx : x.n = 0 := by omega
    by_cases h12 : x.k = 1 ∨ x.k = 2
    · exact tyOk_12 x o c w cb n d hc hn2 hd hx h12
    by_cases h3 : x.k = 3
    · exact tyOk_3 x o c w cb n d hc hn2 hd hx hs h3
    by_cases h4 : x.k = 4
    · exact tyOk_4 ih x o c w cb n d hc hn2 hd hx hd0 h4 hrow
    exact tyOk_no x o c w cb n d hc hn2 hd hx (by omega)
end Go.Proofs.YteoghpefilghdakGreatDoor

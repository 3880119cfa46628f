/- Made of PI, PJ, PK, PL, PM, PR. -/
import Derived.Test.YtlaeenfeajkcfalGreatSP
import Derived.Test.YtlaeenfeajkcfalGreatSS
import Derived.Test.YtlaeenfeajkcfalGreatSO
import Derived.Test.YtlaeenfeajkcfalGreatSR
namespace Go.Proofs.YtlaeenfeajkcfalGreat
open Go.ChangeShapes Go.WideShapes Go.ChangeAt Go.RowKit

def datasTo (h : Nat) (ds : List Tr) : Nat → Bool
  | 0 => true
  | i + 1 => datasTo h ds i && (match ds[i]? with | some d => dataB h ds i d | none => true)
theorem datasTo_next {h : Nat} {ds : List Tr} {i : Nat} {d : Tr} (hd : ds[i]? = some d) (ht : datasTo h ds i = true) : datasTo h ds (i + 1) = dataB h ds i d := by
  show (datasTo h ds i && (match ds[i]? with | some d => dataB h ds i d | none => true)) = _
  rw [ht, hd]
  rfl
theorem datasTo_false {h : Nat} {ds : List Tr} {i n : Nat} (hf : datasTo h ds i = false) (hn : i ≤ n) : datasTo h ds n = false := up_false (datasTo h ds) _ (fun _ => rfl) hf hn
/-- A program is right, as the model has it. -/
def progB (h : Nat) (x : Tr) : Bool := datasTo h x.l x.l.length && (decide (x.l.length ≤ 5) && (decsB (okz h).de x.ds 12 0 && decide (sumZ (cnt h).de x.ds ≤ 200)))

set_option maxHeartbeats 1000000 in
set_option maxRecDepth 100000 in
theorem specProgOk_any {K : Nat → Prop} {w : World} {h : Nat} {x : Tr} {cs : List Value} (hr : prR K w h x cs) (hN : (consL x.l).length ≤ 1048576) :
    Calls Tryz.prog 11 #[.agg cs.toArray] w fun e w' => e = .returned (.bool (progB h x)) ∧ Below w.heap.size w w' := by
  have HR := hide hr
  obtain ⟨-, -, -, -, -, o1, c1, o2, c2, rfl, hl, hd, q1, q2⟩ := hr
  have HN := hide hN
  have HD := hide hd
  have HQ2 := hide q2
  have hl2 : x.l.length ≤ 9223372036854775807 := hl.1
  have HB0 : Hid (Below w.heap.size w (w.alloc (.cells #[.slice o1 x.l.length c1, .slice o2 x.ds.length c2] 31))) := (Below.refl _ w).alloc (Nat.le_refl _) _
  have HP0 : Hid ((w.alloc (.cells #[.slice o1 x.l.length c1, .slice o2 x.ds.length c2] 31)).heap[w.heap.size]? = some (.cells #[.slice o1 x.l.length c1, .slice o2 x.ds.length c2] 31 (0, 0))) := heap_alloc_new w _
  clear hl hd q1 q2 hN
  go_enter Tryz.func11, Tryz.ntmps11
  go_wp2
  generalize (w.alloc (.cells #[.slice o1 x.l.length c1, .slice o2 x.ds.length c2] 31)) = W at HB0 HP0 ⊢
  go_loopw [3] (fun t3 wr => ∃ k : Nat, k ≤ x.l.length ∧ t3 = .int .i64 k ∧ datasTo h x.l k = true ∧ Below W.heap.size W wr) (fun t3 _ => x.l.length - (intOf t3).toNat)
  case atStart => exact ⟨0, Nat.zero_le _, rfl, rfl, Below.refl _ _⟩
  case round =>
    obtain ⟨k, hk, rfl, hal, hbw⟩ := hrel
    have HAL := hide hal
    have HBW := hide hbw
    have HP1 := hide ((hbw.block w.heap.size (heap_lt HP0.out)).trans HP0.out)
    have HBT := hide (HB0.out.trans (hbw.mono HB0.out.size))
    clear hal hbw
    have p0 := cell_of HP1.out 0
    have p1 := cell_of HP1.out 1
    simp only [List.getElem?_toArray, List.getElem?_cons_succ, List.getElem?_cons_zero] at p0 p1
    by_cases hlt : k < x.l.length
    · obtain ⟨d, hx⟩ : ∃ d, x.l[k]? = some d := ⟨x.l[k], List.getElem?_eq_getElem hlt⟩
      have HX := hide hx
      clear hx
      have hlt2 : (k : Int) < x.l.length := by omega
      cases hb : dataB h x.l k d
      all_goals
        have HDB := hide hb
        clear hb
        go_wp2_with fail
        refine (data_any k d HX.out (prR_later HBT.out h _ _ HR.out) HN.out).mono ?_
        rintro e w1 ⟨rfl, hb⟩
        rw [HDB.out]
        have HB1 := hide (HBT.out.trans (hb.mono HBT.out.size))
        have HW1 := hide (HBW.out.trans (hb.mono HBW.out.size))
        clear hb
        go_wp2
      · go_ret
        refine ⟨ret_bool ?_, HB1.out⟩
        unfold progB
        rw [datasTo_false (i := k + 1) (by rw [datasTo_next HX.out HAL.out]; exact HDB.out) (by omega)]
        rfl
      · go_roundw
        case rel => exact ⟨k + 1, by omega, by go_num, by rw [datasTo_next HX.out HAL.out]; exact HDB.out, HW1.out⟩
        case measure => simp [intOf]; omega
    · have hke : k = x.l.length := by omega
      have HPB : Hid (progB h x = (decide (x.l.length ≤ 5) && (decsB (okz h).de x.ds 12 0 && decide (sumZ (cnt h).de x.ds ≤ 200)))) := by
        show progB h x = _
        unfold progB
        rw [← hke, HAL.out]
        rfl
      clear hke
      by_cases h5 : x.l.length ≤ 5
      · have h5i : (x.l.length : Int) ≤ 5 := by omega
        have h5d : decide ((x.l.length : Int) ≤ 5) = true := decide_eq_true h5i
        have h5e : decide (x.l.length ≤ 5) = true := decide_eq_true h5
        have HH5 := hide h5
        clear h5
        go_wp2_with fail
        refine ((co_all h).2.1 K x.ds o2 c2 _ 12 0 (HQ2.out.later HBT.out (reads_later HBT.out h).2.1) HD.out.1 (by omega) (by omega) (by omega) (by omega)).mono ?_
        rintro e w1 ⟨r, rfl, hr, -, -, hb⟩
        have HT := hide hr
        have HB1 := hide (HBT.out.trans (hb.mono HBT.out.size))
        clear hr hb
        go_wp2
        go_ret
        exact ⟨ret_bool (by rw [HPB.out, decide_eq_true HH5.out, Bool.true_and]; exact trk_bool HT.out), HB1.out⟩
      · have h5i : ¬ (x.l.length : Int) ≤ 5 := by omega
        have h5d : decide ((x.l.length : Int) ≤ 5) = false := decide_eq_false h5i
        have h5e : decide (x.l.length ≤ 5) = false := decide_eq_false h5
        have HH5 := hide h5
        clear h5
        go_wp2
        go_ret
        exact ⟨ret_bool (by rw [HPB.out, decide_eq_false HH5.out]; rfl), HBT.out⟩
end Go.Proofs.YtlaeenfeajkcfalGreat
namespace Go.Proofs.YtlaeenfeajkcfalGreat
open Go.ChangeShapes Go.WideShapes Go.ChangeAt Go.RowKit

set_option maxHeartbeats 400000 in
theorem givenT_any (s : ByteArray) (w : World) : Calls Tryz.prog 91 #[.string s] w fun e w' => e = .returned (.bool (givenT s)) ∧ w' = w := by
  cases ha : (s.toList == [73, 110, 116])
  · have HA := hide ha
    cases hb : (s.toList == [66, 111, 111, 108])
    all_goals
      have HB := hide hb
      go_enter Tryz.func91, Tryz.ntmps91
      go_wp2
      go_ret
      exact ⟨ret_bool (by rw [givenT, HA.out, HB.out]; rfl), rfl⟩
  · have HA := hide ha
    go_enter Tryz.func91, Tryz.ntmps91
    go_wp2
    go_ret
    exact ⟨ret_bool (by rw [givenT, HA.out]; rfl), rfl⟩

set_option maxHeartbeats 400000 in
theorem givenC_any (s : ByteArray) (w : World) : Calls Tryz.prog 92 #[.string s] w fun e w' => e = .returned (.bool (givenC s)) ∧ w' = w := by
  cases ha : (s.toList == [84, 114, 117, 101])
  · have HA := hide ha
    cases hb : (s.toList == [70, 97, 108, 115, 101])
    all_goals
      have HB := hide hb
      go_enter Tryz.func92, Tryz.ntmps92
      go_wp2
      go_ret
      exact ⟨ret_bool (by rw [givenC, HA.out, HB.out]; rfl), rfl⟩
  · have HA := hide ha
    go_enter Tryz.func92, Tryz.ntmps92
    go_wp2
    go_ret
    exact ⟨ret_bool (by rw [givenC, HA.out]; rfl), rfl⟩

set_option maxHeartbeats 400000 in
theorem ownGreat_any (s : ByteArray) (w : World) (hs : s.size ≤ maxLen) : Calls Tryz.prog 65 #[.string s] w fun e w' => e = .returned (.bool (ownB s)) ∧ Below w.heap.size w w' := by
  cases hg : grB s
  · have HG : Hid (greatB s.data.toList = false) := hg
    have HG2 := hide hg
    clear hg
    go_enter Tryz.func65, Tryz.ntmps65
    go_wp2_with fail
    refine (implGreat_any _ _ hs).mono ?_
    rintro e w1 ⟨rfl, hb⟩
    rw [HG.out]
    have HB := hide hb
    clear hb
    go_wp2
    go_ret
    exact ⟨ret_bool (by rw [ownB, HG2.out]; rfl), HB.out⟩
  have HG : Hid (greatB s.data.toList = true) := hg
  have HG2 := hide hg
  clear hg
  cases ht : givenT s
  all_goals
    have HT := hide ht
    clear ht
    go_enter Tryz.func65, Tryz.ntmps65
    go_wp2_with fail
    refine (implGreat_any _ _ hs).mono ?_
    rintro e w1 ⟨rfl, hb⟩
    rw [HG.out]
    have HB := hide hb
    clear hb
    go_wp2_with fail
    refine (givenT_any _ _).mono ?_
    rintro e w2 ⟨rfl, rfl⟩
    rw [HT.out]
  · go_wp2_with fail
    refine (givenC_any _ _).mono ?_
    rintro e w2 ⟨rfl, rfl⟩
    go_wp2
    go_ret
    exact ⟨ret_bool (by rw [ownB, HG2.out, HT.out]; simp), HB.out⟩
  · go_wp2
    go_ret
    exact ⟨ret_bool (by rw [ownB, HG2.out, HT.out]; rfl), HB.out⟩

def TCtr (w : World) (cb : Nat) (n : Int) : Prop := w.heap[cb]? = some (.cells #[.int .i64 n] 171 (0, 0))
theorem TCtr.later {w w' : World} {cb : Nat} {n : Int} (h : TCtr w cb n) (hb : Below w.heap.size w w') : TCtr w' cb n := (hb.block cb (heap_lt h)).trans h
theorem TCtr.set {w : World} {cb : Nat} {n m : Int} (h : TCtr w cb n) : TCtr (w.setCell ⟨cb, 0, none⟩ (.int .i64 m)) cb m := heap_set_same _ h
def TRes (cb n : Nat) (w : World) (ok : Bool) (c : Nat) (e : Ending) (w' : World) : Prop := ∃ n' : Nat, e = .returned (.bool ok) ∧ TCtr w' cb n' ∧ (ok = true → n' = n + c) ∧ Kp w.heap.size cb w w'
def ChTy (h : Nat) : Prop := ∀ (x : Tr) (cs : List Value) (w : World) (cb n : Nat) (d : Int), tyR (NeK cb) w h x cs → TCtr w cb n → n ≤ 10 → 0 ≤ d → d ≤ 7 → Calls Tryz.prog 114 #[.pointer (some ⟨cb, 0, none⟩), .agg cs.toArray, .int .i64 d] w (TRes cb n w (tyB h x d && decide (n + tyN h x ≤ 10)) (tyN h x))
theorem ty_no {h n : Nat} {x : Tr} {d : Int} (hh : tyHere x d = false) : (tyB (h + 1) x d && decide (n + tyN (h + 1) x ≤ 10)) = false := by
  show ((tyHere x d && _) && _) = false
  rw [hh]
  rfl
theorem ty_full {h n : Nat} {x : Tr} {d : Int} (hn : n = 10) : (tyB (h + 1) x d && decide (n + tyN (h + 1) x ≤ 10)) = false := by
  have : 1 ≤ tyN (h + 1) x := by show 1 ≤ 1 + sumZ (tyN h) x.l; omega
  rw [decide_eq_false (by omega), Bool.and_false]
theorem ty_leaf {h n : Nat} {x : Tr} {d : Int} (hl : x.l.length = 0) (hn : n < 10) : (tyB (h + 1) x d && decide (n + tyN (h + 1) x ≤ 10)) = tyHere x d ∧ tyN (h + 1) x = 1 := by
  have e : tyN (h + 1) x = 1 := by
    show 1 + sumZ (tyN h) x.l = 1
    rw [List.length_eq_zero_iff.1 hl]
    rfl
  refine ⟨?_, e⟩
  rw [e, decide_eq_true (by omega), Bool.and_true]
  show (tyHere x d && allZ (tyB h) x.l (d + 1)) = _
  rw [List.length_eq_zero_iff.1 hl]
  exact Bool.and_true _

set_option maxHeartbeats 1000000 in
set_option maxRecDepth 100000 in
theorem tyOk_first {h : Nat} (x : Tr) (o : Option Addr) (c : Nat) (w : World) (cb n : Nat) (d : Int) (hc : TCtr w cb n) (hn : n ≤ 10) (hbad : n = 10 ∨ 6 < d ∨ x.n ≠ 0) :
    Calls Tryz.prog 114 #[.pointer (some ⟨cb, 0, none⟩), .agg #[.int .i64 x.k, .string x.s, .int .i64 x.n, .slice o x.l.length c], .int .i64 d] w (TRes cb n w (tyB (h + 1) x d && decide (n + tyN (h + 1) x ≤ 10)) (tyN (h + 1) x)) := by
  have hcb : cb < w.heap.size := heap_lt hc
  have b0 := cell_of hc 0
  have f0 := frozen_of hc 0
  simp only [List.getElem?_toArray, List.getElem?_cons_zero] at b0
  have HKS : Hid (Kp w.heap.size cb w ((w.setCell ⟨cb, 0, none⟩ (.int .i64 (n + 1))).alloc (.cells #[.int .i64 x.k, .string x.s, .int .i64 x.n, .slice o x.l.length c] 48))) := (kp_set w.heap.size cb w _).trans (Kp.of (((Below.refl _ (w.setCell ⟨cb, 0, none⟩ (.int .i64 (n + 1)))).alloc (Nat.le_refl _) _).mono (by simp)))
  have HCS : Hid (TCtr ((w.setCell ⟨cb, 0, none⟩ (.int .i64 (n + 1))).alloc (.cells #[.int .i64 x.k, .string x.s, .int .i64 x.n, .slice o x.l.length c] 48)) cb ((n + 1 : Nat) : Int)) := (hc.set (m := ((n + 1 : Nat) : Int))).later ((Below.refl _ _).alloc (Nat.le_refl _) _)
  have HXS : Hid (((w.setCell ⟨cb, 0, none⟩ (.int .i64 (n + 1))).alloc (.cells #[.int .i64 x.k, .string x.s, .int .i64 x.n, .slice o x.l.length c] 48)).heap[w.heap.size]? = some (.cells #[.int .i64 x.k, .string x.s, .int .i64 x.n, .slice o x.l.length c] 48 (0, 0))) := by
    have h9 := heap_alloc_new (w.setCell ⟨cb, 0, none⟩ (.int .i64 (n + 1))) (.cells #[.int .i64 x.k, .string x.s, .int .i64 x.n, .slice o x.l.length c] 48)
    have h8 : (w.setCell ⟨cb, 0, none⟩ (.int .i64 (n + 1))).heap.size = w.heap.size := by simp
    rw [h8] at h9
    exact h9
  clear hc
  by_cases h10 : n = 10
  · have HF := hide (ty_full (h := h) (x := x) (d := d) h10)
    subst h10
    go_enter Tryz.func114, Tryz.ntmps114
    go_wp2
    go_ret
    exact ⟨10 + 1, ret_bool (HF.out).symm, HCS.out, (fun hx => by rw [HF.out] at hx; cases hx), HKS.out⟩
  by_cases hd : 6 < d
  · have HF := hide (ty_no (h := h) (n := n) (tyh_deep (t := x) hd))
    go_enter Tryz.func114, Tryz.ntmps114
    go_wp2
    go_ret
    exact ⟨n + 1, ret_bool (HF.out).symm, HCS.out, (fun hx => by rw [HF.out] at hx; cases hx), HKS.out⟩
  have hx : x.n ≠ 0 := by omega
  have HF := hide (ty_no (h := h) (n := n) (tyh_n (d := d) hx))
  have hn2 : (x.n != 0) = true := by simpa using hx
  have hn3 : (x.n == 0) = false := by simpa using hx
  clear hx hbad
  go_enter Tryz.func114, Tryz.ntmps114
  go_wp2
  go_ret
  exact ⟨n + 1, ret_bool (HF.out).symm, HCS.out, (fun hx => by rw [HF.out] at hx; cases hx), HKS.out⟩

set_option maxHeartbeats 1000000 in
set_option maxRecDepth 100000 in
theorem tyOk_12 {h : Nat} (x : Tr) (o : Option Addr) (c : Nat) (w : World) (cb n : Nat) (d : Int) (hc : TCtr w cb n) (hn : n < 10) (hd : d ≤ 6) (hx : x.n = 0) (hk12 : x.k = 1 ∨ x.k = 2) :
    Calls Tryz.prog 114 #[.pointer (some ⟨cb, 0, none⟩), .agg #[.int .i64 x.k, .string x.s, .int .i64 x.n, .slice o x.l.length c], .int .i64 d] w (TRes cb n w (tyB (h + 1) x d && decide (n + tyN (h + 1) x ≤ 10)) (tyN (h + 1) x)) := by
  have hcb : cb < w.heap.size := heap_lt hc
  have b0 := cell_of hc 0
  have f0 := frozen_of hc 0
  simp only [List.getElem?_toArray, List.getElem?_cons_zero] at b0
  have HKS : Hid (Kp w.heap.size cb w ((w.setCell ⟨cb, 0, none⟩ (.int .i64 (n + 1))).alloc (.cells #[.int .i64 x.k, .string x.s, .int .i64 x.n, .slice o x.l.length c] 48))) := (kp_set w.heap.size cb w _).trans (Kp.of (((Below.refl _ (w.setCell ⟨cb, 0, none⟩ (.int .i64 (n + 1)))).alloc (Nat.le_refl _) _).mono (by simp)))
  have HCS : Hid (TCtr ((w.setCell ⟨cb, 0, none⟩ (.int .i64 (n + 1))).alloc (.cells #[.int .i64 x.k, .string x.s, .int .i64 x.n, .slice o x.l.length c] 48)) cb ((n + 1 : Nat) : Int)) := (hc.set (m := ((n + 1 : Nat) : Int))).later ((Below.refl _ _).alloc (Nat.le_refl _) _)
  have HXS : Hid (((w.setCell ⟨cb, 0, none⟩ (.int .i64 (n + 1))).alloc (.cells #[.int .i64 x.k, .string x.s, .int .i64 x.n, .slice o x.l.length c] 48)).heap[w.heap.size]? = some (.cells #[.int .i64 x.k, .string x.s, .int .i64 x.n, .slice o x.l.length c] 48 (0, 0))) := by
    have h9 := heap_alloc_new (w.setCell ⟨cb, 0, none⟩ (.int .i64 (n + 1))) (.cells #[.int .i64 x.k, .string x.s, .int .i64 x.n, .slice o x.l.length c] 48)
    have h8 : (w.setCell ⟨cb, 0, none⟩ (.int .i64 (n + 1))).heap.size = w.heap.size := by simp
    rw [h8] at h9
    exact h9
  clear hc
  have HT := hide (tyh_12 (d := d) hd hx hk12)
  have hn2 : (x.n != 0) = false := by simpa using hx
  have hn3 : (x.n == 0) = true := by simpa using hx
  have HN := hide hx
  clear hx
  have hk1 : (x.k == 1) = true ∨ ((x.k == 1) = false ∧ (x.k == 2) = true) := by
    rcases hk12 with h | h
    · exact Or.inl (by rw [h]; rfl)
    · exact Or.inr ⟨by rw [h]; rfl, by rw [h]; rfl⟩
  clear hk12
  cases hem : emptyB x.s
  · have HE := hide hem
    have hs3 : (x.s.toList == []) = false := hem
    have HF := hide (ty_no (h := h) (n := n) (x := x) (d := d) (by rw [HT.out, hem]; rfl))
    clear hem
    rcases hk1 with e1 | ⟨e1, e2⟩
    all_goals
      go_enter Tryz.func114, Tryz.ntmps114
      go_wp2
      go_ret
      exact ⟨n + 1, ret_bool (HF.out).symm, HCS.out, (fun hx => by rw [HF.out] at hx; cases hx), HKS.out⟩
  have HE := hide hem
  have hs3 : (x.s.toList == []) = true := hem
  clear hem
  by_cases hl : x.l.length = 0
  · have h2 : (x.l.length == 0) = true := by simpa using hl
    have h3 : ((x.l.length : Int) == 0) = true := by simpa using hl
    have HLF := hide (ty_leaf (h := h) (x := x) (d := d) hl hn)
    have HOK : Hid (tyHere x d = true) := by show tyHere x d = true; rw [HT.out, HE.out, decide_eq_true hl]; rfl
    clear hl
    rcases hk1 with e1 | ⟨e1, e2⟩
    all_goals
      go_enter Tryz.func114, Tryz.ntmps114
      go_wp2
      go_ret
      exact ⟨n + 1, ret_bool (by rw [HLF.out.1, HOK.out]), HCS.out, (fun _ => by rw [HLF.out.2]), HKS.out⟩
  have h2 : (x.l.length == 0) = false := by simpa using hl
  have h3 : ((x.l.length : Int) == 0) = false := by simpa using hl
  have HF := hide (ty_no (h := h) (n := n) (x := x) (d := d) (by rw [HT.out, decide_eq_false hl, Bool.and_false]))
  clear hl
  rcases hk1 with e1 | ⟨e1, e2⟩
  all_goals
    go_enter Tryz.func114, Tryz.ntmps114
    go_wp2
    go_ret
    exact ⟨n + 1, ret_bool (HF.out).symm, HCS.out, (fun hx => by rw [HF.out] at hx; cases hx), HKS.out⟩

set_option maxHeartbeats 1000000 in
set_option maxRecDepth 100000 in
theorem tyOk_3 {h : Nat} (x : Tr) (o : Option Addr) (c : Nat) (w : World) (cb n : Nat) (d : Int) (hc : TCtr w cb n) (hn : n < 10) (hd : d ≤ 6) (hx : x.n = 0) (hs : x.s.size ≤ maxLen) (hk : x.k = 3) :
    Calls Tryz.prog 114 #[.pointer (some ⟨cb, 0, none⟩), .agg #[.int .i64 x.k, .string x.s, .int .i64 x.n, .slice o x.l.length c], .int .i64 d] w (TRes cb n w (tyB (h + 1) x d && decide (n + tyN (h + 1) x ≤ 10)) (tyN (h + 1) x)) := by
  have hcb : cb < w.heap.size := heap_lt hc
  have b0 := cell_of hc 0
  have f0 := frozen_of hc 0
  simp only [List.getElem?_toArray, List.getElem?_cons_zero] at b0
  have HKS : Hid (Kp w.heap.size cb w ((w.setCell ⟨cb, 0, none⟩ (.int .i64 (n + 1))).alloc (.cells #[.int .i64 x.k, .string x.s, .int .i64 x.n, .slice o x.l.length c] 48))) := (kp_set w.heap.size cb w _).trans (Kp.of (((Below.refl _ (w.setCell ⟨cb, 0, none⟩ (.int .i64 (n + 1)))).alloc (Nat.le_refl _) _).mono (by simp)))
  have HCS : Hid (TCtr ((w.setCell ⟨cb, 0, none⟩ (.int .i64 (n + 1))).alloc (.cells #[.int .i64 x.k, .string x.s, .int .i64 x.n, .slice o x.l.length c] 48)) cb ((n + 1 : Nat) : Int)) := (hc.set (m := ((n + 1 : Nat) : Int))).later ((Below.refl _ _).alloc (Nat.le_refl _) _)
  have HXS : Hid (((w.setCell ⟨cb, 0, none⟩ (.int .i64 (n + 1))).alloc (.cells #[.int .i64 x.k, .string x.s, .int .i64 x.n, .slice o x.l.length c] 48)).heap[w.heap.size]? = some (.cells #[.int .i64 x.k, .string x.s, .int .i64 x.n, .slice o x.l.length c] 48 (0, 0))) := by
    have h9 := heap_alloc_new (w.setCell ⟨cb, 0, none⟩ (.int .i64 (n + 1))) (.cells #[.int .i64 x.k, .string x.s, .int .i64 x.n, .slice o x.l.length c] 48)
    have h8 : (w.setCell ⟨cb, 0, none⟩ (.int .i64 (n + 1))).heap.size = w.heap.size := by simp
    rw [h8] at h9
    exact h9
  clear hc
  have HT := hide (tyh_3 (d := d) hd hx hk)
  have HS := hide hs
  clear hs
  have hn2 : (x.n != 0) = false := by simpa using hx
  have hn3 : (x.n == 0) = true := by simpa using hx
  have HN := hide hx
  clear hx
  have e1 : (x.k == 1) = false := by rw [hk]; rfl
  have e2 : (x.k == 2) = false := by rw [hk]; rfl
  have e3 : (x.k == 3) = true := by rw [hk]; rfl
  have e4 : (x.k == 4) = false := by rw [hk]; rfl
  have HK := hide hk
  clear hk
  cases hg : grB x.s
  · have HG : Hid (greatB x.s.data.toList = false) := hg
    have HF := hide (ty_no (h := h) (n := n) (x := x) (d := d) (by rw [HT.out, tyNm, hg]; rfl))
    clear hg
    go_enter Tryz.func114, Tryz.ntmps114
    go_wp2_with fail
    refine (implGreat_any _ _ HS.out).mono ?_
    rintro e w1 ⟨rfl, hb⟩
    rw [HG.out]
    have HK1 := hide (HKS.out.then hb)
    have HC1 := hide (HCS.out.later hb)
    have HX1 := hide ((hb.block w.heap.size (heap_lt HXS.out)).trans HXS.out)
    clear hb
    have y1 := cell_of HX1.out 1
    have y3 := cell_of HX1.out 3
    simp only [List.getElem?_toArray, List.getElem?_cons_succ, List.getElem?_cons_zero] at y1 y3
    go_wp2
    go_ret
    exact ⟨n + 1, ret_bool (HF.out).symm, HC1.out, (fun hx => by rw [HF.out] at hx; cases hx), HK1.out⟩
  have HG : Hid (greatB x.s.data.toList = true) := hg
  have HG2 := hide hg
  clear hg
  cases hgt : givenT x.s
  case true =>
    have HGT := hide hgt
    have HF := hide (ty_no (h := h) (n := n) (x := x) (d := d) (by rw [HT.out, tyNm, hgt, Bool.not_true, Bool.and_false]; rfl))
    clear hgt
    go_enter Tryz.func114, Tryz.ntmps114
    go_wp2_with fail
    refine (implGreat_any _ _ HS.out).mono ?_
    rintro e w1 ⟨rfl, hb⟩
    rw [HG.out]
    have HK1 := hide (HKS.out.then hb)
    have HC1 := hide (HCS.out.later hb)
    have HX1 := hide ((hb.block w.heap.size (heap_lt HXS.out)).trans HXS.out)
    clear hb
    have y1 := cell_of HX1.out 1
    have y3 := cell_of HX1.out 3
    simp only [List.getElem?_toArray, List.getElem?_cons_succ, List.getElem?_cons_zero] at y1 y3
    go_wp2_with fail
    refine (givenT_any _ _).mono ?_
    rintro e w2 ⟨rfl, rfl⟩
    rw [HGT.out]
    go_wp2
    go_ret
    exact ⟨n + 1, ret_bool (HF.out).symm, HC1.out, (fun hx => by rw [HF.out] at hx; cases hx), HK1.out⟩
  have HGT := hide hgt
  clear hgt
  by_cases hl : x.l.length = 0
  · have h2 : (x.l.length == 0) = true := by simpa using hl
    have h3 : ((x.l.length : Int) == 0) = true := by simpa using hl
    have HLF := hide (ty_leaf (h := h) (x := x) (d := d) hl hn)
    have HOK : Hid (tyHere x d = true) := by show tyHere x d = true; rw [HT.out, tyNm, HG2.out, HGT.out, decide_eq_true hl]; rfl
    clear hl
    go_enter Tryz.func114, Tryz.ntmps114
    go_wp2_with fail
    refine (implGreat_any _ _ HS.out).mono ?_
    rintro e w1 ⟨rfl, hb⟩
    rw [HG.out]
    have HK1 := hide (HKS.out.then hb)
    have HC1 := hide (HCS.out.later hb)
    have HX1 := hide ((hb.block w.heap.size (heap_lt HXS.out)).trans HXS.out)
    clear hb
    have y1 := cell_of HX1.out 1
    have y3 := cell_of HX1.out 3
    simp only [List.getElem?_toArray, List.getElem?_cons_succ, List.getElem?_cons_zero] at y1 y3
    go_wp2_with fail
    refine (givenT_any _ _).mono ?_
    rintro e w2 ⟨rfl, rfl⟩
    rw [HGT.out]
    go_wp2
    go_ret
    exact ⟨n + 1, ret_bool (by rw [HLF.out.1, HOK.out]), HC1.out, (fun _ => by rw [HLF.out.2]), HK1.out⟩
  · have h2 : (x.l.length == 0) = false := by simpa using hl
    have h3 : ((x.l.length : Int) == 0) = false := by simpa using hl
    have HF := hide (ty_no (h := h) (n := n) (x := x) (d := d) (by rw [HT.out, decide_eq_false hl, Bool.and_false]))
    clear hl
    go_enter Tryz.func114, Tryz.ntmps114
    go_wp2_with fail
    refine (implGreat_any _ _ HS.out).mono ?_
    rintro e w1 ⟨rfl, hb⟩
    rw [HG.out]
    have HK1 := hide (HKS.out.then hb)
    have HC1 := hide (HCS.out.later hb)
    have HX1 := hide ((hb.block w.heap.size (heap_lt HXS.out)).trans HXS.out)
    clear hb
    have y1 := cell_of HX1.out 1
    have y3 := cell_of HX1.out 3
    simp only [List.getElem?_toArray, List.getElem?_cons_succ, List.getElem?_cons_zero] at y1 y3
    go_wp2_with fail
    refine (givenT_any _ _).mono ?_
    rintro e w2 ⟨rfl, rfl⟩
    rw [HGT.out]
    go_wp2
    go_ret
    exact ⟨n + 1, ret_bool (HF.out).symm, HC1.out, (fun hx => by rw [HF.out] at hx; cases hx), HK1.out⟩

set_option maxHeartbeats 1000000 in
set_option maxRecDepth 100000 in
theorem tyOk_4 {h : Nat} (ih : ChTy h) (x : Tr) (o : Option Addr) (c : Nat) (w : World) (cb n : Nat) (d : Int) (hc : TCtr w cb n) (hn : n < 10) (hd : d ≤ 6) (hx : x.n = 0) (hd0 : 0 ≤ d) (hk : x.k = 4) (hrow : RowOf (NeK cb) w (tyR (NeK cb) w h) 4 o x.l) :
    Calls Tryz.prog 114 #[.pointer (some ⟨cb, 0, none⟩), .agg #[.int .i64 x.k, .string x.s, .int .i64 x.n, .slice o x.l.length c], .int .i64 d] w (TRes cb n w (tyB (h + 1) x d && decide (n + tyN (h + 1) x ≤ 10)) (tyN (h + 1) x)) := by
  have hcb : cb < w.heap.size := heap_lt hc
  have b0 := cell_of hc 0
  have f0 := frozen_of hc 0
  simp only [List.getElem?_toArray, List.getElem?_cons_zero] at b0
  have HKS : Hid (Kp w.heap.size cb w ((w.setCell ⟨cb, 0, none⟩ (.int .i64 (n + 1))).alloc (.cells #[.int .i64 x.k, .string x.s, .int .i64 x.n, .slice o x.l.length c] 48))) := (kp_set w.heap.size cb w _).trans (Kp.of (((Below.refl _ (w.setCell ⟨cb, 0, none⟩ (.int .i64 (n + 1)))).alloc (Nat.le_refl _) _).mono (by simp)))
  have HCS : Hid (TCtr ((w.setCell ⟨cb, 0, none⟩ (.int .i64 (n + 1))).alloc (.cells #[.int .i64 x.k, .string x.s, .int .i64 x.n, .slice o x.l.length c] 48)) cb ((n + 1 : Nat) : Int)) := (hc.set (m := ((n + 1 : Nat) : Int))).later ((Below.refl _ _).alloc (Nat.le_refl _) _)
  have HXS : Hid (((w.setCell ⟨cb, 0, none⟩ (.int .i64 (n + 1))).alloc (.cells #[.int .i64 x.k, .string x.s, .int .i64 x.n, .slice o x.l.length c] 48)).heap[w.heap.size]? = some (.cells #[.int .i64 x.k, .string x.s, .int .i64 x.n, .slice o x.l.length c] 48 (0, 0))) := by
    have h9 := heap_alloc_new (w.setCell ⟨cb, 0, none⟩ (.int .i64 (n + 1))) (.cells #[.int .i64 x.k, .string x.s, .int .i64 x.n, .slice o x.l.length c] 48)
    have h8 : (w.setCell ⟨cb, 0, none⟩ (.int .i64 (n + 1))).heap.size = w.heap.size := by simp
    rw [h8] at h9
    exact h9
  clear hc
  have HT := hide (tyh_4 (d := d) hd hx hk)
  have IH := hide ih
  have HRW := hide (hrow.frame HKS.out.stays (fun _ h => h) (tyR_frame HKS.out.stays (fun _ h => h) h))
  clear ih hrow
  have hn2 : (x.n != 0) = false := by simpa using hx
  have hn3 : (x.n == 0) = true := by simpa using hx
  have HN := hide hx
  clear hx
  have e1 : (x.k == 1) = false := by rw [hk]; rfl
  have e2 : (x.k == 2) = false := by rw [hk]; rfl
  have e3 : (x.k == 3) = false := by rw [hk]; rfl
  have e4 : (x.k == 4) = true := by rw [hk]; rfl
  have HK := hide hk
  clear hk
  cases hem : emptyB x.s
  · have hs3 : (x.s.toList == []) = false := hem
    have HF := hide (ty_no (h := h) (n := n) (x := x) (d := d) (by rw [HT.out, hem]; rfl))
    clear hem
    go_enter Tryz.func114, Tryz.ntmps114
    go_wp2
    go_ret
    exact ⟨n + 1, ret_bool (HF.out).symm, HCS.out, (fun hx => by rw [HF.out] at hx; cases hx), HKS.out⟩
  have HE := hide hem
  have hs3 : (x.s.toList == []) = true := hem
  clear hem
  by_cases hl : x.l.length = 2
  case neg =>
    have h2 : (x.l.length == 2) = false := by simpa using hl
    have h3 : ((x.l.length : Int) == 2) = false := by rw [beq_eq_false_iff_ne]; omega
    have HF := hide (ty_no (h := h) (n := n) (x := x) (d := d) (by rw [HT.out, decide_eq_false hl, Bool.and_false]))
    clear hl
    go_enter Tryz.func114, Tryz.ntmps114
    go_wp2
    go_ret
    exact ⟨n + 1, ret_bool (HF.out).symm, HCS.out, (fun hx => by rw [HF.out] at hx; cases hx), HKS.out⟩
  obtain ⟨a, b, hab⟩ : ∃ a b, x.l = [a, b] := by
    match h9 : x.l, hl with
    | [a, b], _ => exact ⟨a, b, rfl⟩
  have HB1 : Hid (tyB (h + 1) x d = (tyB h a (d + 1) && tyB h b (d + 1))) := by
    show (tyHere x d && allZ (tyB h) x.l (d + 1)) = _
    rw [HT.out, HE.out, decide_eq_true hl, hab]
    simp [allZ]
  have HN1 : Hid (tyN (h + 1) x = 1 + (tyN h a + tyN h b)) := by
    show 1 + sumZ (tyN h) x.l = _
    rw [hab]
    simp [sumZ]
  rw [hl] at HKS HCS HXS HRW ⊢
  have hrw := HRW.out
  obtain ⟨bb, off, eo, hnk, hbl, hcs⟩ := hrw (by rw [hab]; simp)
  subst eo
  obtain ⟨ca, lA, kA, rA⟩ := hcs 0 a (by rw [hab]; rfl)
  obtain ⟨cb2, lB, kB, rB⟩ := hcs 1 b (by rw [hab]; rfl)
  obtain ⟨oa, ga, rfl⟩ := ty_form rA
  obtain ⟨ob, gb, rfl⟩ := ty_form rB
  have h2 : (x.l.length == 2) = true := by simpa using hl
  have h3 : ((x.l.length : Int) == 2) = true := by rw [beq_iff_eq]; omega
  have RA := hide rA
  have RB := hide rB
  have qa0 := kA 0 _ rfl
  have qb0 := kB 0 _ rfl
  have qa1 := kA 1 _ rfl
  have qb1 := kB 1 _ rfl
  have qa2 := kA 2 _ rfl
  have qb2 := kB 2 _ rfl
  have qa3 := kA 3 _ rfl
  have qb3 := kB 3 _ rfl
  simp only [Nat.zero_mul, Nat.one_mul, Nat.add_zero] at qa0 qa1 qa2 qa3 qb0 qb1 qb2 qb3
  have HKN : Hid (bb ≠ cb) := hnk
  clear rA rB kA kB hcs hrw lA lB hab hl hnk
  go_enter Tryz.func114, Tryz.ntmps114
  go_wp2_with fail
  refine (IH.out a _ _ cb (n + 1) (d + 1) RA.out HCS.out (by omega) (by omega) (by omega)).mono ?_
  rintro e w1 ⟨n1, rfl, hc1, hn1, hk1⟩
  have HC1 := hide hc1
  have HN2 := hide hn1
  have HK1 := hide (HKS.out.on hk1)
  have HX1 := hide ((hk1.block w.heap.size (heap_lt HXS.out) (by omega)).trans HXS.out)
  have mm : ∀ j u, ((w.setCell ⟨cb, 0, none⟩ (.int .i64 (n + 1))).alloc (.cells #[.int .i64 x.k, .string x.s, .int .i64 x.n, .slice (some ⟨bb, off, none⟩) 2 c] 48)).cell? ⟨bb, j, none⟩ = some u → w1.cell? ⟨bb, j, none⟩ = some u := fun j u hu => (World.cell?_of_block (a := ⟨bb, j, none⟩) (hk1.block bb hbl HKN.out)).trans hu
  have mb0 := mm (off + 4) _ qb0
  have mb1 := mm (off + 4 + 1) _ qb1
  have mb2 := mm (off + 4 + 2) _ qb2
  have mb3 := mm (off + 4 + 3) _ qb3
  have HRB := hide (tyR_frame hk1.stays (fun _ h => h) h _ _ RB.out)
  clear hc1 hn1 hk1 qa0 qa1 qa2 qa3 qb0 qb1 qb2 qb3 mm
  cases hr : (tyB h a (d + 1) && decide (n + 1 + tyN h a ≤ 10))
  · have HR := hide hr
    have HF : Hid ((tyB (h + 1) x d && decide (n + tyN (h + 1) x ≤ 10)) = false) := by
      show (tyB (h + 1) x d && decide (n + tyN (h + 1) x ≤ 10)) = false
      rw [HB1.out, HN1.out]
      rw [Bool.and_eq_false_iff] at hr
      rcases hr with h9 | h9
      · rw [h9]; rfl
      · have := of_decide_eq_false h9
        rw [decide_eq_false (by omega), Bool.and_false]
    clear hr
    go_wp2
    go_ret
    exact ⟨n1, ret_bool (HF.out).symm, HC1.out, (fun hx => by rw [HF.out] at hx; cases hx), HK1.out⟩
  have hr2 := hr
  rw [Bool.and_eq_true] at hr2
  have hle := of_decide_eq_true hr2.2
  have HTA := hide hr2.1
  have he1 := HN2.out hr
  have HR := hide hr
  clear hr hr2
  subst he1
  have y3 := cell_of HX1.out 3
  simp only [List.getElem?_toArray, List.getElem?_cons_succ, List.getElem?_cons_zero] at y3
  go_wp2_with fail
  refine (IH.out b _ _ cb (n + 1 + tyN h a) (d + 1) HRB.out HC1.out (by omega) (by omega) (by omega)).mono ?_
  rintro e w2 ⟨n2, rfl, hc2, hn2, hk2⟩
  have HC2 := hide hc2
  have HN3 := hide hn2
  have HK2 := hide (HK1.out.on hk2)
  clear hc2 hn2 hk2
  have HEQ : Hid ((tyB h b (d + 1) && decide (n + 1 + tyN h a + tyN h b ≤ 10)) = (tyB (h + 1) x d && decide (n + tyN (h + 1) x ≤ 10))) := by
    show _ = (tyB (h + 1) x d && decide (n + tyN (h + 1) x ≤ 10))
    rw [HB1.out, HN1.out, HTA.out, show n + (1 + (tyN h a + tyN h b)) = n + 1 + tyN h a + tyN h b by omega]
    rfl
  go_wp2
  go_ret
  refine ⟨n2, ret_bool HEQ.out, HC2.out, fun hx => ?_, HK2.out⟩
  rw [HN3.out (HEQ.out.trans hx), HN1.out]
  omega

set_option maxHeartbeats 1000000 in
set_option maxRecDepth 100000 in
theorem tyOk_no {h : Nat} (x : Tr) (o : Option Addr) (c : Nat) (w : World) (cb n : Nat) (d : Int) (hc : TCtr w cb n) (hn : n < 10) (hd : d ≤ 6) (hx : x.n = 0) (hk : ¬ (x.k = 1 ∨ x.k = 2 ∨ x.k = 3 ∨ x.k = 4)) :
    Calls Tryz.prog 114 #[.pointer (some ⟨cb, 0, none⟩), .agg #[.int .i64 x.k, .string x.s, .int .i64 x.n, .slice o x.l.length c], .int .i64 d] w (TRes cb n w (tyB (h + 1) x d && decide (n + tyN (h + 1) x ≤ 10)) (tyN (h + 1) x)) := by
  have hcb : cb < w.heap.size := heap_lt hc
  have b0 := cell_of hc 0
  have f0 := frozen_of hc 0
  simp only [List.getElem?_toArray, List.getElem?_cons_zero] at b0
  have HKS : Hid (Kp w.heap.size cb w ((w.setCell ⟨cb, 0, none⟩ (.int .i64 (n + 1))).alloc (.cells #[.int .i64 x.k, .string x.s, .int .i64 x.n, .slice o x.l.length c] 48))) := (kp_set w.heap.size cb w _).trans (Kp.of (((Below.refl _ (w.setCell ⟨cb, 0, none⟩ (.int .i64 (n + 1)))).alloc (Nat.le_refl _) _).mono (by simp)))
  have HCS : Hid (TCtr ((w.setCell ⟨cb, 0, none⟩ (.int .i64 (n + 1))).alloc (.cells #[.int .i64 x.k, .string x.s, .int .i64 x.n, .slice o x.l.length c] 48)) cb ((n + 1 : Nat) : Int)) := (hc.set (m := ((n + 1 : Nat) : Int))).later ((Below.refl _ _).alloc (Nat.le_refl _) _)
  have HXS : Hid (((w.setCell ⟨cb, 0, none⟩ (.int .i64 (n + 1))).alloc (.cells #[.int .i64 x.k, .string x.s, .int .i64 x.n, .slice o x.l.length c] 48)).heap[w.heap.size]? = some (.cells #[.int .i64 x.k, .string x.s, .int .i64 x.n, .slice o x.l.length c] 48 (0, 0))) := by
    have h9 := heap_alloc_new (w.setCell ⟨cb, 0, none⟩ (.int .i64 (n + 1))) (.cells #[.int .i64 x.k, .string x.s, .int .i64 x.n, .slice o x.l.length c] 48)
    have h8 : (w.setCell ⟨cb, 0, none⟩ (.int .i64 (n + 1))).heap.size = w.heap.size := by simp
    rw [h8] at h9
    exact h9
  clear hc
  have HF := hide (ty_no (h := h) (n := n) (tyh_no (t := x) (d := d) hk))
  have hn2 : (x.n != 0) = false := by simpa using hx
  have hn3 : (x.n == 0) = true := by simpa using hx
  have HN := hide hx
  clear hx
  have e1 : (x.k == 1) = false := by rw [beq_eq_false_iff_ne]; omega
  have e2 : (x.k == 2) = false := by rw [beq_eq_false_iff_ne]; omega
  have e3 : (x.k == 3) = false := by rw [beq_eq_false_iff_ne]; omega
  have e4 : (x.k == 4) = false := by rw [beq_eq_false_iff_ne]; omega
  clear hk
  go_enter Tryz.func114, Tryz.ntmps114
  go_wp2
  go_ret
  exact ⟨n + 1, ret_bool (HF.out).symm, HCS.out, (fun hx => by rw [HF.out] at hx; cases hx), HKS.out⟩

theorem tyOk_all (h : Nat) : ChTy h := by
  induction h with
  | zero => exact fun _ _ _ _ _ _ hr => hr.elim
  | succ h ih =>
    intro x cs w cb n d hr hc hn hd0 hd7
    obtain ⟨-, -, -, o, c, rfl, hs, hf, hrow⟩ := hr
    by_cases hbad : n = 10 ∨ 6 < d ∨ x.n ≠ 0
    · exact tyOk_first x o c w cb n d hc hn hbad
    have hn2 : n < 10 := by omega
    have hd : d ≤ 6 := by omega
    have hx : x.n = 0 := by omega
    by_cases h12 : x.k = 1 ∨ x.k = 2
    · exact tyOk_12 x o c w cb n d hc hn2 hd hx h12
    by_cases h3 : x.k = 3
    · exact tyOk_3 x o c w cb n d hc hn2 hd hx hs h3
    by_cases h4 : x.k = 4
    · exact tyOk_4 ih x o c w cb n d hc hn2 hd hx hd0 h4 hrow
    exact tyOk_no x o c w cb n d hc hn2 hd hx (by omega)
end Go.Proofs.YtlaeenfeajkcfalGreat
namespace Go.Proofs.YtlaeenfeajkcfalGreat
open Go.ChangeShapes Go.WideShapes Go.ChangeAt Go.RowKit

/-- What can be read lies in blocks that are there. -/
theorem row_ne {α : Type} {w : World} {g : Nat} {R R' : α → List Value → Prop} {size : Nat} {o : Option Addr} {xs : List α} (hg : w.heap.size ≤ g) (hm : RowOf AllK w R size o xs) (hR : ∀ x cs, R x cs → R' x cs) : RowOf (NeK g) w R' size o xs := by
  intro hne
  obtain ⟨b, off, e, -, hl, hc⟩ := hm hne
  refine ⟨b, off, e, (by show b ≠ g; omega), hl, fun i x hx => ?_⟩
  obtain ⟨cs, h1, h2, h3⟩ := hc i x hx
  exact ⟨cs, h1, h2, hR x cs h3⟩
theorem tyR_old {w : World} {g : Nat} (hg : w.heap.size ≤ g) : ∀ h x cs, tyR AllK w h x cs → tyR (NeK g) w h x cs := by
  intro h
  induction h with
  | zero => exact fun _ _ h => h
  | succ h ih =>
    rintro x cs ⟨e1, e2, e3, o, c, e, hs, hf, hr⟩
    exact ⟨e1, e2, e3, o, c, e, hs, hf, row_ne hg hr ih⟩
theorem argB_ty (h : Nat) (t : Tr) : argB h t = (tyB h t 1 && decide (0 + tyN h t ≤ 10)) := by
  rw [Nat.zero_add]
  exact wr_ten h t 1 (by omega)
def argsB (h : Nat) (l : List Tr) : Bool := decide (l.length ≤ 4) && l.all (argB h)
/-- A maker is right, but for its name being another one. -/
def con1 (h : Nat) (c : Tr) : Bool := ownB c.s && argsB h c.l
def consB (h : Nat) (l : List Tr) : Bool := inB l.length 1 5 && l.all (con1 h)
def data1 (h : Nat) (d : Tr) : Bool := ownB d.s && consB h d.l
def datasB (h : Nat) (l : List Tr) : Bool := decide (l.length ≤ 5) && (l.all (data1 h) && (noTwoB (l.map Tr.s) && noTwoB (consL l)))

set_option maxHeartbeats 1000000 in
set_option maxRecDepth 100000 in
theorem argsOk_any {h : Nat} (xs : List Tr) (o : Option Addr) (c : Nat) (w : World) (hl : xs.length ≤ maxLen) (hm : RowOf AllK w (tyR AllK w h) 4 o xs) :
    Calls Tryz.prog 93 #[.slice o xs.length c] w fun e w' => e = .returned (.bool (argsB h xs)) ∧ Below w.heap.size w w' := by
  have HM := hide hm
  have hl2 : xs.length ≤ 9223372036854775807 := hl
  clear hm hl
  by_cases h4 : 4 < (xs.length : Int)
  · go_enter Tryz.func93, Tryz.ntmps93
    go_wp2
    go_ret
    exact ⟨ret_bool (by unfold argsB; rw [decide_eq_false (by omega)]; rfl), Below.refl _ _⟩
  go_enter Tryz.func93, Tryz.ntmps93
  go_wp2
  go_loopw [11] (fun t wr => ∃ i : Nat, i ≤ xs.length ∧ t = .int .i64 i ∧ (xs.take i).all (argB h) = true ∧ Below w.heap.size w wr) (fun t _ => xs.length - (intOf t).toNat)
  case atStart => exact ⟨0, Nat.zero_le _, rfl, rfl, Below.refl _ _⟩
  case round =>
    obtain ⟨i, hi, rfl, hal, hbw⟩ := hrel
    have HAL := hide hal
    have HBW := hide hbw
    clear hal hbw
    by_cases hlt : i < xs.length
    · have hne : xs ≠ [] := by intro e; rw [e] at hlt; simp at hlt
      obtain ⟨x, hx⟩ : ∃ x, xs[i]? = some x := ⟨xs[i], List.getElem?_eq_getElem hlt⟩
      obtain ⟨b, off, eo, -, hbl, hcs⟩ := (HM.out.later HBW.out (tyR_later HBW.out h)) hne
      subst eo
      obtain ⟨cs, hlen, hkey, hrd⟩ := hcs i x hx
      obtain ⟨ot, ct, rfl⟩ := ty_form hrd
      have q0 := hkey 0 _ rfl
      have q1 := hkey 1 _ rfl
      have q2 := hkey 2 _ rfl
      have q3 := hkey 3 _ rfl
      rw [Nat.add_zero] at q0
      have HX := hide hx
      have HB1 : Hid (Below wr.heap.size wr ((wr.alloc (.cells #[.int .i64 x.k, .string x.s, .int .i64 x.n, .slice ot x.l.length ct] 48)).alloc (.cells #[.int .i64 0] 171))) := ((Below.refl _ wr).alloc (Nat.le_refl _) _).alloc (by simp) _
      have HC1 : Hid (TCtr ((wr.alloc (.cells #[.int .i64 x.k, .string x.s, .int .i64 x.n, .slice ot x.l.length ct] 48)).alloc (.cells #[.int .i64 0] 171)) (wr.heap.size + 1) ((0 : Nat) : Int)) := heap_alloc2_new wr _ _
      have HRD := hide (tyR_later HB1.out h _ _ (tyR_old (g := wr.heap.size + 1) (by omega) h _ _ hrd))
      clear hcs hx hne hkey hlen hrd
      have hlt2 : (i : Int) < xs.length := by omega
      cases hb : argB h x
      all_goals
        have HAB := hide hb
        clear hb
        go_wp2_with fail
        refine (tyOk_all h x _ _ (wr.heap.size + 1) 0 1 HRD.out HC1.out (by omega) (by omega) (by omega)).mono ?_
        rintro e w1 ⟨n', rfl, hc, hn, hk⟩
        rw [← argB_ty, HAB.out]
        have HB2 : Hid (Below wr.heap.size wr w1) := by
          have h2 := hk.mono (B' := wr.heap.size) HB1.out.size
          exact HB1.out.trans ⟨h2.os, h2.tape, h2.output, h2.size, fun k hk => h2.block k hk (by omega)⟩
        clear hc hn hk
        go_wp2
      · go_ret
        refine ⟨ret_bool ?_, HBW.out.trans (HB2.out.mono HBW.out.size)⟩
        unfold argsB
        rw [all_false (k := i + 1) (by rw [all_next HX.out HAL.out]; exact HAB.out), Bool.and_false]
      · go_roundw
        case rel => exact ⟨i + 1, by omega, by go_num, by rw [all_next HX.out HAL.out]; exact HAB.out, HBW.out.trans (HB2.out.mono HBW.out.size)⟩
        case measure => simp [intOf]; omega
    · go_wp2
      go_ret
      refine ⟨ret_bool ?_, HBW.out⟩
      have h9 := HAL.out
      rw [List.take_of_length_le (by omega)] at h9
      unfold argsB
      rw [h9, decide_eq_true (by omega)]
      rfl

set_option maxHeartbeats 1000000 in
set_option maxRecDepth 100000 in
theorem consOk_any {h : Nat} (xs : List Tr) (o : Option Addr) (c : Nat) (w : World) (hl : xs.length ≤ maxLen) (hm : RowOf AllK w (coR AllK w h) 2 o xs) :
    Calls Tryz.prog 66 #[.slice o xs.length c] w fun e w' => e = .returned (.bool (consB h xs)) ∧ Below w.heap.size w w' := by
  have HM := hide hm
  have hl2 : xs.length ≤ 9223372036854775807 := hl
  clear hm hl
  cases hin : inB xs.length 1 5
  · have HIN : Hid (consB h xs = false) := by show consB h xs = false; unfold consB; rw [hin]; rfl
    have hor : (xs.length : Int) < 1 ∨ (¬ (xs.length : Int) < 1 ∧ 5 < (xs.length : Int)) := by
      unfold inB at hin
      simp at hin
      omega
    clear hin
    rcases hor with ha | ⟨ha, hb⟩
    all_goals
      go_enter Tryz.func66, Tryz.ntmps66
      go_wp2
      go_ret
      exact ⟨ret_bool HIN.out.symm, Below.refl _ _⟩
  have HIN := hide hin
  have hb1 : ¬ (xs.length : Int) < 1 := by unfold inB at hin; simp at hin; omega
  have hb2 : ¬ 5 < (xs.length : Int) := by unfold inB at hin; simp at hin; omega
  clear hin
  go_enter Tryz.func66, Tryz.ntmps66
  go_wp2
  go_loopw [15] (fun t wr => ∃ i : Nat, i ≤ xs.length ∧ t = .int .i64 i ∧ (xs.take i).all (con1 h) = true ∧ Below w.heap.size w wr) (fun t _ => xs.length - (intOf t).toNat)
  case atStart => exact ⟨0, Nat.zero_le _, rfl, rfl, Below.refl _ _⟩
  case round =>
    obtain ⟨i, hi, rfl, hal, hbw⟩ := hrel
    have HAL := hide hal
    have HBW := hide hbw
    clear hal hbw
    by_cases hlt : i < xs.length
    · have hne : xs ≠ [] := by intro e; rw [e] at hlt; simp at hlt
      obtain ⟨x, hx⟩ : ∃ x, xs[i]? = some x := ⟨xs[i], List.getElem?_eq_getElem hlt⟩
      obtain ⟨b, off, eo, -, hbl, hcs⟩ := (HM.out.later HBW.out (coR_later HBW.out h)) hne
      subst eo
      obtain ⟨cs, hlen, hkey, hrd⟩ := hcs i x hx
      obtain ⟨-, -, -, -, -, ot, ct, rfl, hsc, hfc, hrc⟩ := hrd
      have q0 := hkey 0 _ rfl
      have q1 := hkey 1 _ rfl
      rw [Nat.add_zero] at q0
      have HX := hide hx
      have HSC := hide hsc
      have HFC := hide hfc
      have HA1 : Hid (Below wr.heap.size wr (wr.alloc (.cells #[.string x.s, .slice ot x.l.length ct] 45))) := (Below.refl _ wr).alloc (Nat.le_refl _) _
      have HX1 : Hid ((wr.alloc (.cells #[.string x.s, .slice ot x.l.length ct] 45)).heap[wr.heap.size]? = some (.cells #[.string x.s, .slice ot x.l.length ct] 45 (0, 0))) := heap_alloc_new wr _
      have HRC := hide (hrc.later HA1.out (tyR_later HA1.out h))
      clear hcs hx hne hkey hlen hsc hfc hrc
      have hlt2 : (i : Int) < xs.length := by omega
      cases ho : ownB x.s
      · have HO := hide ho
        clear ho
        go_wp2_with fail
        refine (ownGreat_any _ _ HSC.out).mono ?_
        rintro e w1 ⟨rfl, hb⟩
        rw [HO.out]
        have HB2 := hide (HA1.out.trans (hb.mono HA1.out.size))
        clear hb
        go_wp2
        go_ret
        refine ⟨ret_bool ?_, HBW.out.trans (HB2.out.mono HBW.out.size)⟩
        unfold consB
        rw [all_false (k := i + 1) (by rw [all_next HX.out HAL.out, con1, HO.out]; rfl), Bool.and_false]
      have HO := hide ho
      clear ho
      cases ha : argsB h x.l
      all_goals
        have HAB := hide ha
        clear ha
        go_wp2_with fail
        refine (ownGreat_any _ _ HSC.out).mono ?_
        rintro e w1 ⟨rfl, hb⟩
        rw [HO.out]
        have HB2 := hide (HA1.out.trans (hb.mono HA1.out.size))
        have HX2 := hide ((hb.block wr.heap.size (heap_lt HX1.out)).trans HX1.out)
        have HRC2 := hide (HRC.out.later hb (tyR_later hb h))
        clear hb
        have y1 := cell_of HX2.out 1
        simp only [List.getElem?_toArray, List.getElem?_cons_succ, List.getElem?_cons_zero] at y1
        go_wp2_with fail
        refine (argsOk_any x.l ot ct _ HFC.out.1 HRC2.out).mono ?_
        rintro e w2 ⟨rfl, hb⟩
        rw [HAB.out]
        have HB3 := hide (HB2.out.trans (hb.mono HB2.out.size))
        clear hb
        go_wp2
      · go_ret
        refine ⟨ret_bool ?_, HBW.out.trans (HB3.out.mono HBW.out.size)⟩
        unfold consB
        rw [all_false (k := i + 1) (by rw [all_next HX.out HAL.out, con1, HO.out, HAB.out]; rfl), Bool.and_false]
      · go_roundw
        case rel => exact ⟨i + 1, by omega, by go_num, by rw [all_next HX.out HAL.out, con1, HO.out, HAB.out]; rfl, HBW.out.trans (HB3.out.mono HBW.out.size)⟩
        case measure => simp [intOf]; omega
    · go_wp2
      go_ret
      refine ⟨ret_bool ?_, HBW.out⟩
      have h9 := HAL.out
      rw [List.take_of_length_le (by omega)] at h9
      unfold consB
      rw [h9, HIN.out]
      rfl
end Go.Proofs.YtlaeenfeajkcfalGreat
namespace Go.Proofs.YtlaeenfeajkcfalGreat
open Go.ChangeShapes Go.WideShapes Go.ChangeAt Go.RowKit

/-- Two rows of one's own that share nothing. -/
structure TwoO (w : World) (base : Nat) (e : TypeId) (v u : Value) (n m : Nat) (xs ys : List Value) : Prop where
  a : w.ownsRow base e 1 v n xs
  b : w.ownsRow base e 1 u m ys
  ne : ∀ g, v.ownBlock = some g → u.ownBlock ≠ some g
theorem TwoO.later {w w' : World} {base : Nat} {e : TypeId} {v u : Value} {n m : Nat} {xs ys : List Value} (h : TwoO w base e v u n m xs ys) (hb : Below w.heap.size w w') : TwoO w' base e v u n m xs ys :=
  ⟨owns_block h.a fun g hg => hb.block g (owns_lt h.a g hg).1, owns_block h.b fun g hg => hb.block g (owns_lt h.b g hg).1, h.ne⟩
theorem TwoO.swap {w : World} {base : Nat} {e : TypeId} {v u : Value} {n m : Nat} {xs ys : List Value} (h : TwoO w base e v u n m xs ys) : TwoO w base e u v m n ys xs :=
  ⟨h.b, h.a, fun g h1 h2 => h.ne g h2 h1⟩
theorem TwoO.put {w w1 w2 : World} {base : Nat} {e : TypeId} {v u v' : Value} {n n' m : Nat} {xs xs' ys : List Value} (h : TwoO w base e v u n m xs ys) (hb : Below w.heap.size w w1) (ho : w2.ownsRow base e 1 v' n' xs') (hg : w1.grownBy w2 v.ownBlock) (hloc : v'.ownBlock = v.ownBlock ∨ v'.ownBlock = some w1.heap.size) : TwoO w2 base e v' u n' m xs' ys := by
  have h1 := h.later hb
  refine ⟨ho, owns_block h1.b fun g hgu => hg.block g (owns_lt h1.b g hgu).1 (fun he => h.ne g he.symm hgu), fun g hv hu => ?_⟩
  rcases hloc with hl | hl
  · exact h.ne g (hl ▸ hv) hu
  · have e1 : w1.heap.size = g := Option.some.inj (hl.symm.trans hv)
    have := (owns_lt h1.b g hu).1
    omega
theorem below_grown {base : Nat} {w w1 w2 : World} {v : Value} (hb : Below base w w1) (hg : w1.grownBy w2 v.ownBlock) (hv : ∀ g, v.ownBlock = some g → base ≤ g) (hs : base ≤ w1.heap.size) : Below base w w2 :=
  hb.trans ⟨hg.os, hg.tape, hg.output, hg.size, fun k hk => hg.block k (by omega) (fun e => absurd (hv k e.symm) (by omega))⟩
theorem strs_snoc {l : List Tr} {i : Nat} {d : Tr} (h : l[i]? = some d) : ((l.take (i + 1)).map Tr.s).map Value.string = ((l.take i).map Tr.s).map Value.string ++ [.string d.s] := by
  rw [names_take h, List.map_append]
  rfl

theorem cell2_at (W : World) (A : Obj) (a : Value) (t : TypeId) : ∀ (j : Nat) (u : Value), [a][j]? = some u → ((W.alloc A).alloc (.cells #[a] t)).cell? ((⟨W.heap.size + 1, 0, none⟩ : Addr).add j) = some u := by
  intro j u hj
  have h := cell1_at (W.alloc A) a t j u hj
  have e : (W.alloc A).heap.size = W.heap.size + 1 := by simp
  rw [e] at h
  exact h

set_option maxHeartbeats 2000000 in
set_option maxRecDepth 100000 in
theorem datasOk_any {h : Nat} (xs : List Tr) (o : Option Addr) (c : Nat) (w : World) (hl : xs.length ≤ maxLen) (hN : (consL xs).length ≤ 1048576) (hm : RowOf AllK w (daR AllK w h) 2 o xs) :
    Calls Tryz.prog 35 #[.slice o xs.length c] w fun e w' => e = .returned (.bool (datasB h xs)) ∧ Below w.heap.size w w' := by
  have HM := hide hm
  have HNN := hide hN
  have hl2 : xs.length ≤ 9223372036854775807 := hl
  have HSZ : Hid ((∀ s ∈ xs.map Tr.s, s.size ≤ maxLen) ∧ (∀ s ∈ consL xs, s.size ≤ maxLen)) := by
    refine ⟨fun s hs => ?_, fun s hs => ?_⟩
    · obtain ⟨y, hy, rfl⟩ := List.mem_map.1 hs
      obtain ⟨j, hj⟩ := List.mem_iff_getElem?.1 hy
      have hne : xs ≠ [] := by intro e; rw [e] at hj; simp at hj
      obtain ⟨_, _, _, _, _, hcs⟩ := hm hne
      obtain ⟨_, _, _, -, -, -, -, -, _, _, _, hs9, _⟩ := hcs j y hj
      exact hs9
    · unfold consL at hs
      obtain ⟨y, hy, hs⟩ := List.mem_flatMap.1 hs
      obtain ⟨z, hz, rfl⟩ := List.mem_map.1 hs
      obtain ⟨j, hj⟩ := List.mem_iff_getElem?.1 hy
      obtain ⟨j2, hj2⟩ := List.mem_iff_getElem?.1 hz
      have hne : xs ≠ [] := by intro e; rw [e] at hj; simp at hj
      obtain ⟨_, _, _, _, _, hcs⟩ := hm hne
      obtain ⟨_, _, _, -, -, -, -, -, _, _, _, _, _, hrow⟩ := hcs j y hj
      have hne2 : y.l ≠ [] := by intro e; rw [e] at hj2; simp at hj2
      obtain ⟨_, _, _, _, _, hcs2⟩ := hrow hne2
      obtain ⟨_, _, _, -, -, -, -, -, _, _, _, hs9, _⟩ := hcs2 j2 z hj2
      exact hs9
  clear hm hl hN
  obtain ⟨i0, hi0, hz0, hz1, hz2⟩ := info_parts info_string
  by_cases h5 : 5 < (xs.length : Int)
  · go_enter Tryz.func35, Tryz.ntmps35
    go_wp2
    go_ret
    exact ⟨ret_bool (by unfold datasB; rw [decide_eq_false (by omega)]; rfl), Below.refl _ _⟩
  have hx5 : xs.length ≤ 5 := by omega
  go_enter Tryz.func35, Tryz.ntmps35
  go_wp2
  go_loopw [3, 4, 16] (fun t3 t4 t wr => ∃ i : Nat, i ≤ xs.length ∧ t = .int .i64 i ∧ (xs.take i).all (data1 h) = true ∧ TwoO wr w.heap.size 9 t3 t4 i (consL (xs.take i)).length (((xs.take i).map Tr.s).map Value.string) ((consL (xs.take i)).map Value.string) ∧ Below w.heap.size w wr) (fun _ _ t _ => xs.length - (intOf t).toNat)
  case atStart =>
    refine ⟨0, Nat.zero_le _, rfl, rfl, ⟨?_, ?_, ?_⟩, ((Below.refl _ w).alloc (Nat.le_refl _) _).alloc (by simp) _⟩
    · exact owns_block (owns_empty w _ _) fun g hg => by
        have hg2 := owns_lt (owns_empty w 9 1) g hg
        exact Below.heap_alloc _ _ _ hg2.1
    · exact ⟨rfl, Or.inr ⟨w.heap.size + 1, 0, #[], rfl, Nat.le_add_right _ _, heap_alloc2_new w _ _, Nat.le_refl _, Nat.zero_le _, rfl, rfl⟩⟩
    · intro g h1 h2
      have e1 : w.heap.size = g := Option.some.inj h1
      have e2 : w.heap.size + 1 = g := by simpa using Option.some.inj h2
      omega
  case round =>
    obtain ⟨i, hi, rfl, hal, htwo, hbw⟩ := hrel
    have HAL := hide hal
    have HTW := hide htwo
    have HBW := hide hbw
    clear hal htwo hbw
    by_cases hlt : i < xs.length
    · have hne : xs ≠ [] := by intro e; rw [e] at hlt; simp at hlt
      obtain ⟨x, hx⟩ : ∃ x, xs[i]? = some x := ⟨xs[i], List.getElem?_eq_getElem hlt⟩
      obtain ⟨b, off, eo, -, hbl, hcs⟩ := HM.out hne
      subst eo
      obtain ⟨cs, hlen, hkey, hrd⟩ := hcs i x hx
      obtain ⟨-, -, -, -, -, ot, ct, rfl, hsc, hfc, hrc⟩ := hrd
      have q0 := (HBW.out.cell (p := ⟨b, off + i * 2 + 0, none⟩) hbl).trans (hkey 0 _ rfl)
      have q1 := (HBW.out.cell (p := ⟨b, off + i * 2 + 1, none⟩) hbl).trans (hkey 1 _ rfl)
      rw [Nat.add_zero] at q0
      have HX := hide hx
      have HSC := hide hsc
      have HFC := hide hfc
      have hd2 : x.l.length ≤ 9223372036854775807 := hfc.1
      have hcl := consL_len hx
      have hNN : (consL xs).length ≤ 1048576 := HNN.out
      have HA1 : Hid (Below wr.heap.size wr (wr.alloc (.cells #[.string x.s, .slice ot x.l.length ct] 42))) := (Below.refl _ wr).alloc (Nat.le_refl _) _
      have HX1 : Hid ((wr.alloc (.cells #[.string x.s, .slice ot x.l.length ct] 42)).heap[wr.heap.size]? = some (.cells #[.string x.s, .slice ot x.l.length ct] 42 (0, 0))) := heap_alloc_new wr _
      have HRC := hide hrc
      have HTW1 := hide (HTW.out.later HA1.out)
      have HB1 := hide (HBW.out.trans (HA1.out.mono HBW.out.size))
      have hsz1 : w.heap.size ≤ wr.heap.size := HBW.out.size
      clear hcs hx hne hkey hlen hsc hfc hrc
      have hlt2 : (i : Int) < xs.length := by omega
      cases ho : ownB x.s
      · have HO := hide ho
        clear ho
        go_wp2_with fail
        refine (ownGreat_any _ _ HSC.out).mono ?_
        rintro e w1 ⟨rfl, hb⟩
        rw [HO.out]
        have HB2 := hide (HB1.out.trans (hb.mono HB1.out.size))
        clear hb
        go_wp2
        go_ret
        refine ⟨ret_bool ?_, HB2.out⟩
        unfold datasB
        rw [all_false (k := i + 1) (by rw [all_next HX.out HAL.out, data1, HO.out]; rfl), Bool.false_and, Bool.and_false]
      have HO := hide ho
      clear ho
      cases ha : consB h x.l
      all_goals
        have HAB := hide ha
        clear ha
        go_wp2_with fail
        refine (ownGreat_any _ _ HSC.out).mono ?_
        rintro e w1 ⟨rfl, hb⟩
        rw [HO.out]
        have HB2 := hide (HB1.out.trans (hb.mono HB1.out.size))
        have HX2 := hide ((hb.block wr.heap.size (heap_lt HX1.out)).trans HX1.out)
        have HTW2 := hide (HTW1.out.later hb)
        clear hb
        have y1 := cell_of HX2.out 1
        simp only [List.getElem?_toArray, List.getElem?_cons_succ, List.getElem?_cons_zero] at y1
        go_wp2_with fail
        refine (consOk_any x.l ot ct _ HFC.out.1 (HRC.out.later HB2.out (coR_later HB2.out h))).mono ?_
        rintro e w2 ⟨rfl, hb⟩
        rw [HAB.out]
        have HB3 := hide (HB2.out.trans (hb.mono HB2.out.size))
        have HX3 := hide ((hb.block wr.heap.size (heap_lt HX2.out)).trans HX2.out)
        have HTW3 := hide (HTW2.out.later hb)
        clear hb y1
      · go_wp2
        go_ret
        refine ⟨ret_bool ?_, HB3.out⟩
        unfold datasB
        rw [all_false (k := i + 1) (by rw [all_next HX.out HAL.out, data1, HO.out, HAB.out]; rfl), Bool.false_and, Bool.and_false]
      · have y0 := cell_of HX3.out 0
        have y1 := cell_of HX3.out 1
        simp only [List.getElem?_toArray, List.getElem?_cons_succ, List.getElem?_cons_zero] at y0 y1
        have hsz3 : w.heap.size ≤ w2.heap.size := HB3.out.size
        have hlen1 : (consL (xs.take i)).length + x.l.length ≤ 1048576 := by omega
        generalize hL1 : ((xs.take i).map Tr.s).map Value.string = L1 at HTW3
        generalize hL2 : (consL (xs.take i)).map Value.string = L2 at HTW3
        generalize hM : (consL (xs.take i)).length = M at HTW3 hlen1
        have HL1 := hide hL1
        have HL2 := hide hL2
        have HMM := hide hM
        have hbt : ∀ g, u3.ownBlock = some g → g < wr.heap.size := fun g hg => (owns_lt HTW.out.a g hg).1
        have HBTT := hide hbt
        clear hL1 hL2 hM hbt q0 q1 hcl hNN
        go_wp2_with (at_builtin; refine wpList_append_own_at _ rfl (.tmp 30) (.tmp 33) 38 rfl w.heap.size 9 i0 _ 1 16 Tryz.underlying38 hi0 hz0 hz1 hz2 rfl (by decide) _ i L1 rfl (HTW3.out.a.alloc _) ⟨w2.heap.size, 0, none⟩ 1 1 [.string x.s] rfl rfl (cell1_at w2 _ _) (str_one _) (by unfold maxLen; omega) (by omega) (by simp; omega) ?_)
        intro v' w3 hown' hgrow hnil hloc
        have hba : Below w2.heap.size w2 (w2.alloc (.cells #[.string x.s] 9)) := (Below.refl _ w2).alloc (Nat.le_refl _) _
        have HTW4 : Hid (TwoO w3 w.heap.size 9 v' u4 (i + 1) M (L1 ++ [.string x.s]) L2) := HTW3.out.put hba hown' hgrow (by simpa using hloc)
        have HB4 : Hid (Below w.heap.size w w3) := below_grown (HB3.out.trans (hba.mono HB3.out.size)) hgrow (fun g hg => (owns_lt HTW.out.a g hg).2) (by simp; omega)
        have HX4 : Hid (w3.heap[wr.heap.size]? = some (.cells #[.string x.s, .slice ot x.l.length ct] 42 (0, 0))) := (hgrow.block wr.heap.size (Nat.lt_of_lt_of_le (heap_lt HX3.out) hba.size) (fun e => absurd (HBTT.out _ e.symm) (by omega))).trans ((hba.block _ (heap_lt HX3.out)).trans HX3.out)
        clear hown' hgrow hnil hloc hba y0 y1
        have y1 := cell_of HX4.out 1
        simp only [List.getElem?_toArray, List.getElem?_cons_succ, List.getElem?_cons_zero] at y1
        go_wp2
        clear y1
        go_loopw [4, 38] (fun t4 t38 wq => ∃ k : Nat, k ≤ x.l.length ∧ t38 = .int .i64 k ∧ TwoO wq w.heap.size 9 v' t4 (i + 1) (M + k) (L1 ++ [.string x.s]) (L2 ++ ((x.l.take k).map Tr.s).map Value.string) ∧ Below w.heap.size w wq) (fun _ t38 _ => x.l.length - (intOf t38).toNat)
        case atStart =>
          refine ⟨0, Nat.zero_le _, rfl, ?_, HB4.out⟩
          have h9 := HTW4.out
          simpa using h9
        case round =>
          obtain ⟨k, hk, rfl, htwo, hbq⟩ := hrel
          have HTK := hide htwo
          have HBQ := hide hbq
          have hsq : w.heap.size ≤ wr.heap.size := hbq.size
          clear htwo hbq
          by_cases hlk : k < x.l.length
          · have hne : x.l ≠ [] := by intro e; rw [e] at hlk; simp at hlk
            obtain ⟨z, hz⟩ : ∃ z, x.l[k]? = some z := ⟨x.l[k], List.getElem?_eq_getElem hlk⟩
            obtain ⟨b2, off2, eo, -, hbl2, hcs⟩ := HRC.out hne
            subst eo
            obtain ⟨cs, hlen, hkey, hrd⟩ := hcs k z hz
            obtain ⟨oz, cz, rfl⟩ := co_form hrd
            have u0 := (HBQ.out.cell (p := ⟨b2, off2 + k * 2 + 0, none⟩) hbl2).trans (hkey 0 _ rfl)
            have u1 := (HBQ.out.cell (p := ⟨b2, off2 + k * 2 + 1, none⟩) hbl2).trans (hkey 1 _ rfl)
            rw [Nat.add_zero] at u0
            have HZ := hide hz
            clear hcs hz hne hkey hlen hrd
            have hlk2 : (k : Int) < x.l.length := by omega
            have hTK2 := HTK.out
            generalize hL3 : L2 ++ ((x.l.take k).map Tr.s).map Value.string = L3 at hTK2
            have HL3 := hide hL3
            have HTK2 := hide hTK2
            clear hL3 hTK2
            go_wp2_with (at_builtin; refine wpList_append_own_at _ rfl (.tmp 42) (.tmp 45) 38 rfl w.heap.size 9 i0 _ 1 16 Tryz.underlying38 hi0 hz0 hz1 hz2 rfl (by decide) _ (M + k) L3 rfl ((HTK2.out.b.alloc _).alloc _) ⟨wr.heap.size + 1, 0, none⟩ 1 1 [.string z.s] rfl rfl (cell2_at wr _ _ _) (str_one _) (by unfold maxLen; omega) (by omega) (by simp; omega) ?_)
            intro v'' w4 hown' hgrow hnil hloc
            have hba : Below wr.heap.size wr ((wr.alloc (.cells #[.string z.s, .slice oz z.l.length cz] 45)).alloc (.cells #[.string z.s] 9)) := ((Below.refl _ wr).alloc (Nat.le_refl _) _).alloc (by simp) _
            have HTK4 : Hid (TwoO w4 w.heap.size 9 v' v'' (i + 1) (M + k + 1) (L1 ++ [.string x.s]) (L3 ++ [.string z.s])) := (HTK2.out.swap.put hba hown' hgrow (by simpa using hloc)).swap
            have HBQ4 : Hid (Below w.heap.size w w4) := below_grown (HBQ.out.trans (hba.mono HBQ.out.size)) hgrow (fun g hg => (owns_lt HTK.out.b g hg).2) (by simp; omega)
            clear hown' hgrow hnil hloc hba
            go_wp2
            refine ⟨⟨k + 1, by omega, by go_num, ?_, HBQ4.out⟩, by simp [intOf]; omega⟩
            have h9 := HTK4.out
            rw [← HL3.out, List.append_assoc, ← strs_snoc HZ.out] at h9
            exact h9
          · go_wp2
            refine ⟨⟨i + 1, by omega, by go_num, by rw [all_next HX.out HAL.out, data1, HO.out, HAB.out]; rfl, ?_, HBQ.out⟩, by simp [intOf]; omega⟩
            have h9 := HTK.out
            have hkx : k = x.l.length := by omega
            rw [hkx, List.take_length, ← HL1.out, ← HL2.out, ← HMM.out, ← strs_snoc HX.out, ← List.map_append, ← consL_take HX.out] at h9
            have h8 : (consL (xs.take i)).length + x.l.length = (consL (xs.take (i + 1))).length := by rw [consL_take HX.out, List.length_append, List.length_map]
            rw [h8] at h9
            exact h9
    · have hie : i = xs.length := by omega
      have hT := HTW.out
      rw [hie, List.take_length] at hT
      have hA := HAL.out
      rw [hie, List.take_length] at hA
      have hlen : xs.length = (xs.map Tr.s).length := by rw [List.length_map]
      have hTa := hT.a
      have hTb := hT.b
      rw [hlen] at hTa
      obtain ⟨oo, cap, hv, hml, hcp, hrow⟩ := strs_of hTa HSZ.out.1
      obtain ⟨o2, cap2, hv2, hml2, hcp2, hrow2⟩ := strs_of hTb HSZ.out.2
      rw [List.length_map] at hv
      subst hv hv2
      have HML := hide hml
      have HCP := hide hcp
      have HROW := hide hrow
      have HML2 := hide hml2
      have HCP2 := hide hcp2
      have HROW2 := hide hrow2
      have HDB : Hid (datasB h xs = (noTwoB (xs.map Tr.s) && noTwoB (consL xs))) := by
        show datasB h xs = _
        unfold datasB
        rw [decide_eq_true hx5, hA]
        rfl
      have hlt2 : ¬ (i : Int) < xs.length := by omega
      clear hT hA hTa hTb hlen hml hcp hrow hml2 hcp2 hrow2 hie
      cases hn1 : noTwoB (xs.map Tr.s)
      all_goals
        have HN1 := hide hn1
        clear hn1
        go_wp2_with fail
        refine (noTwo_any (xs.map Tr.s) xs.length (List.length_map _) oo cap _ HML.out HCP.out HROW.out).mono ?_
        rintro e w1 ⟨rfl, hw1⟩
        rw [hw1, HN1.out]
        clear hw1 w1
      · go_wp2
        go_ret
        exact ⟨ret_bool (by rw [HDB.out, HN1.out]; rfl), HBW.out⟩
      · go_wp2_with fail
        refine (noTwo_any (consL xs) (consL xs).length rfl o2 cap2 _ HML2.out HCP2.out HROW2.out).mono ?_
        rintro e w1 ⟨rfl, hw1⟩
        rw [hw1]
        clear hw1 w1
        go_wp2
        go_ret
        exact ⟨ret_bool (by rw [HDB.out, HN1.out]; rfl), HBW.out⟩
end Go.Proofs.YtlaeenfeajkcfalGreat
namespace Go.Proofs.YtlaeenfeajkcfalGreat

theorem gr_notU {s : ByteArray} (h : grB s = true) : isU s = false := by
  cases hu : isU s with
  | false => rfl
  | true =>
    have e : s.data.toList = [95] := by rw [← toList_data]; exact eq_of_beq hu
    unfold grB at h
    rw [e] at h
    revert h
    decide
theorem own_notU {s : ByteArray} (h : ownB s = true) : isU s = false := by
  unfold ownB at h
  rw [Bool.and_eq_true] at h
  exact gr_notU h.1
theorem noDup_noTwo2 (l : List ByteArray) (n : Nat) (h : ∀ i, i < n → isU (atZ l i) = false) : noDupTo l n = noTwoTo l n := by
  induction n with
  | zero => rfl
  | succ n ih =>
    show (noDupTo l n && _) = (noTwoTo l n && _)
    rw [ih fun i hi => h i (by omega), h n (by omega)]
    rfl
theorem noDupTo_iff (l : List ByteArray) (n : Nat) : noDupTo l n = true ↔ ∀ i, i < n → alikeB (l.take i) (atZ l i) = false := by
  induction n with
  | zero => exact ⟨fun _ i hi => by omega, fun _ => rfl⟩
  | succ n ih =>
    show (noDupTo l n && !alikeB (l.take n) (atZ l n)) = true ↔ _
    rw [Bool.and_eq_true, ih]
    constructor
    · rintro ⟨h1, h2⟩ i hi
      by_cases he : i = n
      · subst he
        cases hb : alikeB (l.take i) (atZ l i) with
        | false => rfl
        | true => rw [hb] at h2; cases h2
      · exact h1 i (by omega)
    · intro h
      exact ⟨fun i hi => h i (by omega), by rw [h n (by omega)]; rfl⟩
theorem atZ_get {l : List ByteArray} {i : Nat} (h : i < l.length) : atZ l i = l[i] := by
  unfold atZ
  rw [List.getD_eq_getElem?_getD, List.getElem?_eq_getElem h]
  rfl
theorem noDup_pair (l : List ByteArray) : noDupB l = true ↔ l.Pairwise (fun a b => a.toList ≠ b.toList) := by
  unfold noDupB
  rw [noDupTo_iff, List.pairwise_iff_getElem]
  constructor
  · intro h i j hi hj hij he
    have h1 := h j hj
    unfold alikeB at h1
    rw [atZ_get hj] at h1
    have h2 : ((l.take j).any fun t => t.toList == l[j].toList) = true := by
      rw [List.any_eq_true]
      refine ⟨l[i], ?_, by rw [he]; exact beq_self_eq_true _⟩
      rw [List.mem_iff_getElem?]
      exact ⟨i, by rw [List.getElem?_take, if_pos hij, List.getElem?_eq_getElem hi]⟩
    rw [h1] at h2
    cases h2
  · intro h i hi
    unfold alikeB
    rw [atZ_get hi, List.any_eq_false]
    intro t ht he
    obtain ⟨j, hj⟩ := List.mem_iff_getElem?.1 ht
    have hji : j < i := by
      have := (List.getElem?_eq_some_iff.1 hj).1
      rw [List.length_take] at this
      omega
    rw [List.getElem?_take, if_pos hji] at hj
    obtain ⟨hjl, hjt⟩ := List.getElem?_eq_some_iff.1 hj
    refine h j i hjl hi hji ?_
    rw [hjt]
    exact eq_of_beq he
theorem cntS_cons (t : ByteArray) (r : List ByteArray) (s : ByteArray) : cntS (t :: r) s = cntS r s + cond (t.toList == s.toList) 1 0 := by
  unfold cntS
  rw [List.countP_cons]
  cases (t.toList == s.toList) <;> rfl
theorem cntS_pos {r : List ByteArray} {s b : ByteArray} (hb : b ∈ r) (he : b.toList = s.toList) : 0 < cntS r s := by
  unfold cntS
  rw [List.countP_pos_iff]
  exact ⟨b, hb, by rw [he]; exact beq_self_eq_true _⟩
theorem cntS_zero {r : List ByteArray} {s : ByteArray} (h : ∀ b ∈ r, b.toList ≠ s.toList) : cntS r s = 0 := by
  unfold cntS
  rw [List.countP_eq_zero]
  intro b hb he
  exact h b hb (eq_of_beq he)
theorem pair_cnt (l : List ByteArray) : l.Pairwise (fun a b => a.toList ≠ b.toList) ↔ ∀ s ∈ l, cntS l s = 1 := by
  induction l with
  | nil => exact ⟨(fun _ s hs => by cases hs), fun _ => List.Pairwise.nil⟩
  | cons x r ih =>
    rw [List.pairwise_cons, ih]
    constructor
    · rintro ⟨h1, h2⟩ s hs
      rw [cntS_cons]
      rcases List.mem_cons.1 hs with rfl | hs
      · rw [beq_self_eq_true, cntS_zero (fun b hb => (h1 b hb).symm)]
        rfl
      · have hne : (x.toList == s.toList) = false := by
          rw [beq_eq_false_iff_ne]
          exact h1 s hs
        rw [hne, h2 s hs]
        rfl
    · intro h
      have h1 : ∀ b ∈ r, x.toList ≠ b.toList := by
        intro b hb he
        have h9 := h x (List.mem_cons_self ..)
        rw [cntS_cons, beq_self_eq_true] at h9
        have := cntS_pos hb he.symm
        simp at h9
        omega
      refine ⟨h1, fun s hs => ?_⟩
      have h9 := h s (List.mem_cons_of_mem _ hs)
      have hne : (x.toList == s.toList) = false := by
        rw [beq_eq_false_iff_ne]
        exact h1 s hs
      rw [cntS_cons, hne] at h9
      simpa using h9
theorem datasTo_iff (h : Nat) (l : List Tr) (n : Nat) : datasTo h l n = true ↔ ∀ i d, i < n → l[i]? = some d → dataB h l i d = true := by
  induction n with
  | zero => exact ⟨fun _ i d hi => by omega, fun _ => rfl⟩
  | succ n ih =>
    show (datasTo h l n && (match l[n]? with | some d => dataB h l n d | none => true)) = true ↔ _
    rw [Bool.and_eq_true, ih]
    constructor
    · rintro ⟨h1, h2⟩ i d hi hd
      by_cases he : i = n
      · subst he
        rw [hd] at h2
        exact h2
      · exact h1 i d (by omega) hd
    · intro h9
      refine ⟨fun i d hi hd => h9 i d (by omega) hd, ?_⟩
      cases hd : l[n]? with
      | none => rfl
      | some d => exact h9 n d (by omega) hd
theorem con_parts (h : Nat) (ds : List Tr) (c : Tr) : conB h ds c = (con1 h c && decide (cntS (consL ds) c.s = 1)) := by
  unfold conB con1 argsB
  cases ownB c.s <;> cases decide (c.l.length ≤ 4) <;> cases decide (cntS (consL ds) c.s = 1) <;> cases c.l.all (argB h) <;> rfl
theorem mem_consL {l : List Tr} {s : ByteArray} : s ∈ consL l ↔ ∃ d ∈ l, ∃ c ∈ d.l, c.s = s := by
  unfold consL
  rw [List.mem_flatMap]
  constructor
  · rintro ⟨d, hd, hs⟩
    obtain ⟨c, hc, e⟩ := List.mem_map.1 hs
    exact ⟨d, hd, c, hc, e⟩
  · rintro ⟨d, hd, c, hc, e⟩
    exact ⟨d, hd, List.mem_map.2 ⟨c, hc, e⟩⟩
theorem alike_names {l : List Tr} {i : Nat} {d : Tr} (hd : l[i]? = some d) : alikeB ((l.map Tr.s).take i) (atZ (l.map Tr.s) i) = alikeB ((l.take i).map Tr.s) d.s := by
  have hi : i < (l.map Tr.s).length := by rw [List.length_map]; exact (List.getElem?_eq_some_iff.1 hd).1
  rw [atZ_get hi, List.map_take, List.getElem_map]
  congr 1
  rw [(List.getElem?_eq_some_iff.1 hd).2]
theorem datas_same (h : Nat) (l : List Tr) : datasTo h l l.length = (l.all (data1 h) && (noTwoB (l.map Tr.s) && noTwoB (consL l))) := by
  have names : (∀ d ∈ l, ownB d.s = true) → noTwoB (l.map Tr.s) = noDupB (l.map Tr.s) := by
    intro ho
    symm
    refine noDup_noTwo2 _ _ fun i hi => ?_
    rw [atZ_get hi]
    obtain ⟨d, hd, e⟩ := List.mem_map.1 (List.getElem_mem hi)
    rw [← e]
    exact own_notU (ho d hd)
  have cons : (∀ d ∈ l, ∀ c ∈ d.l, ownB c.s = true) → noTwoB (consL l) = noDupB (consL l) := by
    intro ho
    symm
    refine noDup_noTwo2 _ _ fun i hi => ?_
    rw [atZ_get hi]
    obtain ⟨d, hd, c, hc, e⟩ := mem_consL.1 (List.getElem_mem hi)
    rw [← e]
    exact own_notU (ho d hd c hc)
  rw [Bool.eq_iff_iff, datasTo_iff]
  constructor
  · intro H
    have key : ∀ i d, l[i]? = some d → alikeB ((l.take i).map Tr.s) d.s = false ∧ (∀ c ∈ d.l, con1 h c = true ∧ cntS (consL l) c.s = 1) ∧ ownB d.s = true ∧ inB d.l.length 1 5 = true := by
      intro i d hd
      have h1 := H i d (List.getElem?_eq_some_iff.1 hd).1 hd
      unfold dataB at h1
      rw [Bool.and_eq_true, Bool.and_eq_true, Bool.and_eq_true] at h1
      obtain ⟨a1, a2, a3, a4⟩ := h1
      refine ⟨?_, fun c hc => ?_, a3, a4⟩
      · cases hb : alikeB ((l.take i).map Tr.s) d.s with
        | false => rfl
        | true => rw [hb] at a1; cases a1
      · rw [List.all_eq_true] at a2
        have h2 := a2 c hc
        rw [con_parts, Bool.and_eq_true] at h2
        exact ⟨h2.1, of_decide_eq_true h2.2⟩
    have keym : ∀ d ∈ l, (∀ c ∈ d.l, con1 h c = true ∧ cntS (consL l) c.s = 1) ∧ ownB d.s = true ∧ inB d.l.length 1 5 = true := by
      intro d hd
      obtain ⟨i, hi⟩ := List.mem_iff_getElem?.1 hd
      exact (key i d hi).2
    have ow : ∀ d ∈ l, ∀ c ∈ d.l, ownB c.s = true := by
      intro d hd c hc
      have h2 := ((keym d hd).1 c hc).1
      unfold con1 at h2
      rw [Bool.and_eq_true] at h2
      exact h2.1
    rw [Bool.and_eq_true, Bool.and_eq_true, names fun d hd => (keym d hd).2.1, cons ow]
    refine ⟨?_, ?_, ?_⟩
    · rw [List.all_eq_true]
      intro d hd
      obtain ⟨k1, k2, k3⟩ := keym d hd
      unfold data1 consB
      rw [k2, k3]
      show d.l.all (con1 h) = true
      rw [List.all_eq_true]
      exact fun c hc => (k1 c hc).1
    · unfold noDupB
      rw [noDupTo_iff]
      intro i hi
      have hi2 : i < l.length := by rw [List.length_map] at hi; exact hi
      rw [alike_names (List.getElem?_eq_getElem hi2)]
      exact (key i _ (List.getElem?_eq_getElem hi2)).1
    · rw [noDup_pair, pair_cnt]
      intro s hs
      obtain ⟨d, hd, c, hc, e⟩ := mem_consL.1 hs
      rw [← e]
      exact ((keym d hd).1 c hc).2
  · intro H
    rw [Bool.and_eq_true, Bool.and_eq_true] at H
    obtain ⟨a1, a2, a3⟩ := H
    rw [List.all_eq_true] at a1
    have keym : ∀ d ∈ l, ownB d.s = true ∧ inB d.l.length 1 5 = true ∧ ∀ c ∈ d.l, con1 h c = true := by
      intro d hd
      have h1 := a1 d hd
      unfold data1 consB at h1
      rw [Bool.and_eq_true, Bool.and_eq_true, List.all_eq_true] at h1
      exact h1
    have ow : ∀ d ∈ l, ∀ c ∈ d.l, ownB c.s = true := by
      intro d hd c hc
      have h2 := (keym d hd).2.2 c hc
      unfold con1 at h2
      rw [Bool.and_eq_true] at h2
      exact h2.1
    rw [names fun d hd => (keym d hd).1] at a2
    rw [cons ow, noDup_pair, pair_cnt] at a3
    unfold noDupB at a2
    rw [noDupTo_iff] at a2
    intro i d hi hd
    have hm : d ∈ l := List.mem_of_getElem? hd
    obtain ⟨k1, k2, k3⟩ := keym d hm
    unfold dataB
    have h9 := a2 i (by rw [List.length_map]; exact hi)
    rw [alike_names hd] at h9
    rw [h9, k1, k2]
    show (d.l.all (conB h l) && true) = true
    rw [Bool.and_true, List.all_eq_true]
    intro c hc
    rw [con_parts, k3 c hc, decide_eq_true (a3 c.s (mem_consL.2 ⟨d, hm, c, hc, rfl⟩))]
    rfl
theorem prog_same (h : Nat) (x : Tr) : progB h x = (datasB h x.l && (decsB (okz h).de x.ds 12 0 && decide (sumZ (cnt h).de x.ds ≤ 200))) := by
  unfold progB datasB
  rw [datas_same]
  generalize x.l.all (data1 h) = a
  generalize noTwoB (x.l.map Tr.s) = b
  generalize noTwoB (consL x.l) = c
  generalize decide (x.l.length ≤ 5) = e
  generalize (decsB (okz h).de x.ds 12 0 && decide (sumZ (cnt h).de x.ds ≤ 200)) = f
  cases a <;> cases b <;> cases c <;> cases e <;> cases f <;> rfl
end Go.Proofs.YtlaeenfeajkcfalGreat
namespace Go.Proofs.YtlaeenfeajkcfalGreat
open Go.ChangeShapes Go.WideShapes Go.ChangeAt Go.RowKit
set_option linter.unusedVariables false

theorem cons_wt (h : Nat) (l : List Tr) : (consL l).length ≤ (l.map (wda h)).sum := by
  induction l with
  | nil => exact Nat.le_refl _
  | cons d r ih =>
    have e : consL (d :: r) = d.l.map Tr.s ++ consL r := rfl
    rw [e, List.length_append, List.length_map, List.map_cons, List.sum_cons]
    have h1 : d.l.length ≤ wda h d := by unfold wda lw; omega
    omega

set_option maxHeartbeats 400000 in
theorem implProgOk_any {w : World} {h : Nat} {x : Tr} {cs : List Value} (hr : prR AllK w h x cs) (hN : (consL x.l).length ≤ 1048576) :
    Calls Tryz.prog 17 #[.agg cs.toArray] w fun e w' => e = .returned (.bool (progB h x)) ∧ Below w.heap.size w w' := by
  obtain ⟨-, -, -, -, -, o1, c1, o2, c2, rfl, hl, hd, q1, q2⟩ := hr
  have HB1 : Hid (Below w.heap.size w ((w.alloc (.cells #[.slice o1 x.l.length c1, .slice o2 x.ds.length c2] 31)).alloc (.cells #[.int .i64 0] 83))) := ((Below.refl _ w).alloc (Nat.le_refl _) _).alloc (by simp) _
  have HP1 : Hid (((w.alloc (.cells #[.slice o1 x.l.length c1, .slice o2 x.ds.length c2] 31)).alloc (.cells #[.int .i64 0] 83)).heap[w.heap.size]? = some (.cells #[.slice o1 x.l.length c1, .slice o2 x.ds.length c2] 31 (0, 0))) := (Below.heap_alloc _ _ _ (by simp)).trans (heap_alloc_new w _)
  have HC1 : Hid (Ctr ((w.alloc (.cells #[.slice o1 x.l.length c1, .slice o2 x.ds.length c2] 31)).alloc (.cells #[.int .i64 0] 83)) (w.heap.size + 1) ((0 : Nat) : Int)) := heap_alloc2_new w _ _
  have HQ1 := hide (q1.later HB1.out (daR_later HB1.out h))
  have HQ2 := hide (row_old (g := w.heap.size + 1) (by omega) q2)
  have HL := hide hl
  have HD := hide hd
  have HN := hide hN
  clear hl hd q1 q2 hN
  cases hb : datasB h x.l
  all_goals
    have HDB := hide hb
    clear hb
    go_enter Tryz.func17, Tryz.ntmps17
    go_wp2_with fail
    refine (datasOk_any x.l o1 c1 _ HL.out.1 HN.out HQ1.out).mono ?_
    rintro e w1 ⟨rfl, hb⟩
    rw [HDB.out]
    have HB2 := hide (HB1.out.trans (hb.mono HB1.out.size))
    have HP2 := hide ((hb.block w.heap.size (heap_lt HP1.out)).trans HP1.out)
    have HC2 := hide (HC1.out.later hb)
    clear hb
  · go_wp2
    go_ret
    exact ⟨ret_bool (by rw [prog_same, HDB.out]; rfl), HB2.out⟩
  · have p1 := cell_of HP2.out 1
    simp only [List.getElem?_toArray, List.getElem?_cons_succ, List.getElem?_cons_zero] at p1
    go_wp2_with fail
    refine ((ch_all h).2.2.2.1 x.ds o2 c2 _ (w.heap.size + 1) 0 12 0 (HQ2.out.later HB2.out (reads_later HB2.out h).2.1) HD.out.1 HC2.out (by omega) (by omega) (by omega) (by omega) (by omega)).mono ?_
    rintro e w2 ⟨n', rfl, hc, hn, hk⟩
    have HB3 : Hid (Below w.heap.size w w2) := by
      have h2 := hk.mono (B' := w.heap.size) HB2.out.size
      exact HB2.out.trans ⟨h2.os, h2.tape, h2.output, h2.size, fun k hk => h2.block k hk (by omega)⟩
    clear hc hn hk
    go_wp2
    go_ret
    exact ⟨ret_bool (by rw [prog_same, HDB.out]; first | rfl | simp), HB3.out⟩

end Go.Proofs.YtlaeenfeajkcfalGreat

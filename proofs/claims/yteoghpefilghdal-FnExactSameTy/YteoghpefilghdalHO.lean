/- The program's held.dec: a pair of definitions. -/
import Derived.Test.YteoghpefilghdalHN
namespace Go.Proofs.Yteoghpefilghdal
open Go.ChangeShapes Go.WideShapes Go.ChangeAt Go.RowKit

/-- Two definitions are the same, but for their parts. -/
def rootD (t u : Tr) : Bool := eqS t.s u.s && (strsB t.ss u.ss && decide (t.ds.length = u.ds.length))
/-- What is held behind a pair of definitions. -/
def deL (ls ks : Nat → List (Addr × Addr)) (xb xo yb yo : Nat) (o2 p2 : Option Addr) (t u : Tr) : Nat → List (Addr × Addr) :=
  upd (upd ls 0 (ls 0 ++ newOf (ks 0) (⟨xb, xo + 2, none⟩, ⟨yb, yo + 2, none⟩))) 1 (ls 1 ++ puts (ks 1) o2 p2 9 t.ds.length u.ds.length)
theorem z8_of {a b z : Value} {ce : List Value} (h : ce.length = 6) : ([a, b] ++ ce ++ [z])[8]? = some z := by
  rw [List.getElem?_append_right (by simp [h])]
  simp [h]

set_option maxHeartbeats 8000000 in
set_option maxRecDepth 100000 in
theorem held_dec {h : Nat} (xb xo yb yo g : Nat) (w : World) (K KP : Nat → Prop) (hKP : ∀ b, KP b → K b) (ls ks : Nat → List (Addr × Addr)) (hh : HeldMem TT w K g ls ks) (t u : Tr) (cs ds : List Value) (o2 p2 : Option Addr) (c2 d2 : Nat) (rt : (reads KP w h).de t cs) (ru : (reads KP w h).de u ds)
    (e8 : cs[8]? = some (.slice o2 t.ds.length c2)) (f8 : ds[8]? = some (.slice p2 u.ds.length d2)) (hcs : CellsAt w ⟨xb, xo, none⟩ cs) (hds : CellsAt w ⟨yb, yo, none⟩ ds) (kx : KP xb) (ky : KP yb) (hp : ∀ b, KP b → PlainAt w ⟨b, 0, none⟩) (hn : (ls 0).length ≤ 10000000) (hn1 : (ls 1).length + t.ds.length ≤ 10000000) :
    Calls Try.prog 39 #[.pointer (some ⟨g, 0, none⟩), .pointer (some ⟨xb, xo, none⟩), .pointer (some ⟨yb, yo, none⟩)] w fun e' w' => e' = .returned (.bool (rootD t u)) ∧ Keeps K w w' ∧ (rootD t u = true → HeldMem TT w' K g (deL ls ks xb xo yb yo o2 p2 t u) (deL ks ks xb xo yb yo o2 p2 t u)) := by
  cases h with
  | zero => exact False.elim rt
  | succ h =>
  obtain ⟨-, -, -, e, o1, c1, ce, o2', c2', -, rfl, -, f1, f3, r1, lc, -, r2⟩ := rt
  obtain ⟨-, -, -, f, p1, d1, de, p2', d2', -, rfl, -, f2, f4, q1, ld, -, q2⟩ := ru
  have ma0 := kept_cell (K := K) (hKP _ kx) (hcs 0 (.string t.s) rfl)
  have ma1 := kept_cell (K := K) (hKP _ kx) (hcs 1 (.slice o1 t.ss.length c1) rfl)
  have ma8 := kept_cell (K := K) (hKP _ kx) (hcs 8 _ e8)
  have mb0 := kept_cell (K := K) (hKP _ ky) (hds 0 (.string u.s) rfl)
  have mb1 := kept_cell (K := K) (hKP _ ky) (hds 1 (.slice p1 u.ss.length d1) rfl)
  have mb8 := kept_cell (K := K) (hKP _ ky) (hds 8 _ f8)
  simp only [Nat.add_zero] at ma0 mb0
  rw [z8_of lc] at e8
  rw [z8_of ld] at f8
  simp only [Option.some.injEq, Value.slice.injEq, true_and] at e8 f8
  obtain ⟨rfl, rfl⟩ := e8
  obtain ⟨rfl, rfl⟩ := f8
  have R1 := hide r1
  have R2 := hide r2
  have Q1 := hide q1
  have Q2 := hide q2
  have F1 := hide f1.1
  have F3 := hide f3.1
  have G1 := hide f2.1
  have G3 := hide f4.1
  have HH := hide hh
  have HP := hide hp
  have HKP := hide hKP
  have HN := hide hn1
  have HPUT := hide (held_put ⟨xb, xo + 2, none⟩ ⟨yb, yo + 2, none⟩ g (w.drewN 1) K ls ks (hh.later ⟨rfl, rfl, rfl, Nat.le_refl _, fun _ _ => rfl⟩) (hKP _ kx) (hKP _ ky) ((hp _ kx).later ⟨rfl, rfl, rfl, Nat.le_refl _, fun _ _ => rfl⟩) ((hp _ ky).later ⟨rfl, rfl, rfl, Nat.le_refl _, fun _ _ => rfl⟩) hn)
  clear r1 r2 q1 q2 f1 f2 f3 f4 hh hp hKP hn hn1 kx ky hcs hds lc ld
  have hne0 : Nonempty (KeptW K w) := kept_nonempty K w
  go_enter Try.func39, Try.ntmps39
  go_upto_region 1 with fail
  refine wp_region_cuts (S := fun w' => ∃ q : KeptW K w, w' = q.w) [9] (by kernel_rfl) (by kernel_rfl) (by kernel_rfl) ⟨⟨_, keeps_drew K w 1⟩, rfl⟩ ?_
  simp only [wpCuts, List.take_succ_cons, List.take_zero, List.drop_succ_cons, List.drop_zero]
  repeat (first | go_big_quiet_skip | (go_big_quiet_want; go_big_quiet_op; go_big_quiet_on))
  refine wpQuiet_nil ?_
  go_wp2_with fail
  refine HPUT.out.mono ?_
  rintro e' w1 ⟨rfl, hm, hk⟩
  have HM1 := hide hm
  have HK1 := hide ((keeps_drew K w 1).trans hk)
  have HK2 := hide (((keeps_drew K w 1).trans hk).trans (keeps_drew K w1 1))
  clear hm hk HPUT
  go_wp2
  refine ⟨⟨⟨w1, HK1.out⟩, rfl⟩, ?_⟩
  repeat (first | go_big_quiet_skip | (go_big_quiet_want; go_big_quiet_op; go_big_quiet_on))
  refine wpQuiet_nil ?_
  go_upto_region 2 with fail
  refine wp_region_cuts (S := fun w' => ∃ q : KeptW K w, w' = q.w) [18, 13] (by kernel_rfl) (by kernel_rfl) (by kernel_rfl) ⟨⟨_, HK2.out⟩, rfl⟩ ?_
  simp only [wpCuts, List.take_succ_cons, List.take_zero, List.drop_succ_cons, List.drop_zero]
  cases hq : (t.s.toList == u.s.toList)
  · have HRT : Hid (rootD t u = false) := by show rootD t u = false; unfold rootD eqS; rw [hq, Bool.false_and]
    repeat (first | go_big_quiet_skip | (go_big_quiet_want; go_big_quiet_op; go_big_quiet_on))
    refine wpQuiet_nil ?_
    go_wp2
    refine ⟨⟨⟨(w1.drewN 1), HK2.out⟩, rfl⟩, ?_⟩
    repeat (first | go_big_quiet_skip | (go_big_quiet_want; go_big_quiet_op; go_big_quiet_on))
    refine wpQuiet_nil ?_
    go_wp2
    refine ⟨⟨⟨(w1.drewN 1), HK2.out⟩, rfl⟩, ?_⟩
    repeat (first | go_big_quiet_skip | (go_big_quiet_want; go_big_quiet_op; go_big_quiet_on))
    refine wpQuiet_nil ?_
    go_wp2
    go_ret
    exact ⟨ret_bool HRT.out.symm, HK2.out, fun hx => (by rw [HRT.out] at hx; cases hx)⟩
  have HQE : Hid (eqS t.s u.s = true) := hq
  cases hss : strsB t.ss u.ss
  · have HSS := hide hss
    have HRT : Hid (rootD t u = false) := by show rootD t u = false; unfold rootD; rw [hss, Bool.false_and, Bool.and_false]
    clear hss
    repeat (first | go_big_quiet_skip | (go_big_quiet_want; go_big_quiet_op; go_big_quiet_on))
    refine wpQuiet_nil ?_
    go_wp2_with fail
    refine (slicesEqual_any t.ss u.ss o1 p1 c1 d1 (w1.drewN 1) F1.out G1.out (R1.out.frame ((st_keeps HK2.out).less HKP.out) (fun _ h => h) fun _ _ h => h) (Q1.out.frame ((st_keeps HK2.out).less HKP.out) (fun _ h => h) fun _ _ h => h)).mono ?_
    rintro e' w2 ⟨rfl, m2, hw2⟩
    rw [HSS.out]
    have HK3 : Hid (Keeps K w w2) := by rw [hw2]; exact HK2.out.trans (keeps_drew K _ m2)
    have HM3 : Hid (HeldMem TT w2 K g (upd ls 0 (ls 0 ++ newOf (ks 0) (⟨xb, xo + 2, none⟩, ⟨yb, yo + 2, none⟩))) (upd ks 0 (ks 0 ++ newOf (ks 0) (⟨xb, xo + 2, none⟩, ⟨yb, yo + 2, none⟩)))) := by rw [hw2]; exact (HM1.out.later (w' := w1.drewN 1) ⟨rfl, rfl, rfl, Nat.le_refl _, fun _ _ => rfl⟩).later ⟨rfl, rfl, rfl, Nat.le_refl _, fun _ _ => rfl⟩
    clear hw2
    go_wp2
    refine ⟨⟨⟨w2, HK3.out⟩, rfl⟩, ?_⟩
    repeat (first | go_big_quiet_skip | (go_big_quiet_want; go_big_quiet_op; go_big_quiet_on))
    refine wpQuiet_nil ?_
    go_wp2
    refine ⟨⟨⟨w2, HK3.out⟩, rfl⟩, ?_⟩
    repeat (first | go_big_quiet_skip | (go_big_quiet_want; go_big_quiet_op; go_big_quiet_on))
    refine wpQuiet_nil ?_
    go_wp2
    go_ret
    exact ⟨ret_bool HRT.out.symm, HK3.out, fun hx => (by rw [HRT.out] at hx; cases hx)⟩
  have HSS := hide hss
  have HRT : Hid (rootD t u = decide (t.ds.length = u.ds.length)) := by show rootD t u = _; unfold rootD; rw [HQE.out, hss]; simp
  clear hss
  repeat (first | go_big_quiet_skip | (go_big_quiet_want; go_big_quiet_op; go_big_quiet_on))
  refine wpQuiet_nil ?_
  go_wp2_with fail
  refine (slicesEqual_any t.ss u.ss o1 p1 c1 d1 (w1.drewN 1) F1.out G1.out (R1.out.frame ((st_keeps HK2.out).less HKP.out) (fun _ h => h) fun _ _ h => h) (Q1.out.frame ((st_keeps HK2.out).less HKP.out) (fun _ h => h) fun _ _ h => h)).mono ?_
  rintro e' w2 ⟨rfl, m2, hw2⟩
  rw [HSS.out]
  have HK3 : Hid (Keeps K w w2) := by rw [hw2]; exact HK2.out.trans (keeps_drew K _ m2)
  have HM3 : Hid (HeldMem TT w2 K g (upd ls 0 (ls 0 ++ newOf (ks 0) (⟨xb, xo + 2, none⟩, ⟨yb, yo + 2, none⟩))) (upd ks 0 (ks 0 ++ newOf (ks 0) (⟨xb, xo + 2, none⟩, ⟨yb, yo + 2, none⟩)))) := by rw [hw2]; exact (HM1.out.later (w' := w1.drewN 1) ⟨rfl, rfl, rfl, Nat.le_refl _, fun _ _ => rfl⟩).later ⟨rfl, rfl, rfl, Nat.le_refl _, fun _ _ => rfl⟩
  clear hw2
  go_wp2
  refine ⟨⟨⟨w2, HK3.out⟩, rfl⟩, ?_⟩
  repeat (first | go_big_quiet_skip | (go_big_quiet_want; go_big_quiet_op; go_big_quiet_on))
  refine wpQuiet_nil ?_
  go_wp2_with fail
  refine (held_putAll_de o2' p2' c2' d2' g t.ds u.ds w2 K _ _ HM3.out HKP.out (R2.out.frame ((st_keeps HK3.out).less HKP.out) (fun _ h => h) (R' := fun _ _ => True) fun _ _ _ => trivial) (Q2.out.frame ((st_keeps HK3.out).less HKP.out) (fun _ h => h) (R' := fun _ _ => True) fun _ _ _ => trivial) F3.out G3.out (fun b hb => (HP.out b hb).block (HK3.out.block b (HKP.out b hb))) (by rw [upd_other _ _ (by omega)]; exact HN.out)).mono ?_
  rintro e' w3 ⟨rfl, hm, hk⟩
  have HM4 := hide hm
  have HK4 := hide (HK3.out.trans hk)
  clear hm hk
  go_wp2
  refine ⟨⟨⟨w3, HK4.out⟩, rfl⟩, ?_⟩
  repeat (first | go_big_quiet_skip | (go_big_quiet_want; go_big_quiet_op; go_big_quiet_on))
  refine wpQuiet_nil ?_
  go_wp2
  go_ret
  refine ⟨ret_bool HRT.out.symm, HK4.out, fun _ => ?_⟩
  have h9 := HM4.out
  rw [upd_other _ _ (show (1 : Nat) ≠ 0 by omega), upd_other _ _ (show (1 : Nat) ≠ 0 by omega)] at h9
  exact h9
end Go.Proofs.Yteoghpefilghdal

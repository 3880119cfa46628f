/- The program's held.exp: a pair of expressions. -/
import Derived.Test.YteoghpefilghdalHL
import Derived.Test.YteoghpefilghdalQD
namespace Go.Proofs.Yteoghpefilghdal
open Go.ChangeShapes Go.WideShapes Go.ChangeAt Go.RowKit

/-- Two expressions are the same, but for their parts. -/
def rootE (t u : Tr) : Bool := decide (t.k = u.k) && (eqS t.s u.s && (decide (t.n = u.n) && (decide (t.l.length = u.l.length) && (decide (t.ds.length = u.ds.length) && decide (t.al.length = u.al.length)))))
/-- What is held behind a pair of expressions. -/
def exL (ls ks : Nat → List (Addr × Addr)) (o1 p1 o2 p2 o3 p3 : Option Addr) (t u : Tr) : Nat → List (Addr × Addr) :=
  upd (upd (upd ls 0 (ls 0 ++ puts (ks 0) o1 p1 6 t.l.length u.l.length)) 1 (ls 1 ++ puts (ks 1) o2 p2 9 t.ds.length u.ds.length)) 2 (ls 2 ++ puts (ks 2) o3 p3 8 t.al.length u.al.length)
/-- The worlds in which what is looked at is as it was. -/
abbrev KeptW (K : Nat → Prop) (w : World) : Type := Cl (fun v => Keeps K w v)
theorem kept_cell {K : Nat → Prop} {w : World} {b j : Nat} {v : Value} (kb : K b) (h : w.cell? ⟨b, j, none⟩ = some v) : ∀ q : KeptW K w, q.w.cell? ⟨b, j, none⟩ = some v := fun q =>
  (World.cell?_of_block (a := ⟨b, j, none⟩) (q.h.block b kb)).trans h
theorem kept_nonempty (K : Nat → Prop) (w : World) : Nonempty (KeptW K w) := ⟨⟨w, Keeps.refl _ _⟩⟩
theorem keeps_drew (K : Nat → Prop) (w : World) (n : Nat) : Keeps K w (w.drewN n) := ⟨rfl, rfl, rfl, Nat.le_refl _, fun _ _ => rfl⟩

theorem st_keeps {K : Nat → Prop} {w w' : World} (h : Keeps K w w') : Stays K w w' := ⟨h.size, fun b hb _ => h.block b hb⟩

set_option maxHeartbeats 8000000 in
set_option maxRecDepth 100000 in
theorem held_exp {h : Nat} (xb xo yb yo g : Nat) (w : World) (K KP : Nat → Prop) (hKP : ∀ b, KP b → K b) (ls ks : Nat → List (Addr × Addr)) (hh : HeldMem TT w K g ls ks) (t u : Tr) (o1 o2 o3 p1 p2 p3 : Option Addr) (c1 c2 c3 d1 d2 d3 : Nat)
    (rt : (reads KP w h).ex t [.int .i64 t.k, .string t.s, .int .i64 t.n, .slice o1 t.l.length c1, .slice o2 t.ds.length c2, .slice o3 t.al.length c3]) (ru : (reads KP w h).ex u [.int .i64 u.k, .string u.s, .int .i64 u.n, .slice p1 u.l.length d1, .slice p2 u.ds.length d2, .slice p3 u.al.length d3])
    (hcs : CellsAt w ⟨xb, xo, none⟩ [.int .i64 t.k, .string t.s, .int .i64 t.n, .slice o1 t.l.length c1, .slice o2 t.ds.length c2, .slice o3 t.al.length c3]) (hds : CellsAt w ⟨yb, yo, none⟩ [.int .i64 u.k, .string u.s, .int .i64 u.n, .slice p1 u.l.length d1, .slice p2 u.ds.length d2, .slice p3 u.al.length d3])
    (kx : KP xb) (ky : KP yb) (hp : ∀ b, KP b → PlainAt w ⟨b, 0, none⟩) (hn0 : (ls 0).length + t.l.length ≤ 10000000) (hn1 : (ls 1).length + t.ds.length ≤ 10000000) (hn2 : (ls 2).length + t.al.length ≤ 10000000) :
    Calls Try.prog 37 #[.pointer (some ⟨g, 0, none⟩), .pointer (some ⟨xb, xo, none⟩), .pointer (some ⟨yb, yo, none⟩)] w fun e' w' => e' = .returned (.bool (rootE t u)) ∧ Keeps K w w' ∧ (rootE t u = true → HeldMem TT w' K g (exL ls ks o1 p1 o2 p2 o3 p3 t u) (exL ks ks o1 p1 o2 p2 o3 p3 t u)) := by
  have ma0 := kept_cell (K := K) (hKP _ kx) (hcs 0 _ rfl)
  have ma1 := kept_cell (K := K) (hKP _ kx) (hcs 1 _ rfl)
  have ma2 := kept_cell (K := K) (hKP _ kx) (hcs 2 _ rfl)
  have ma3 := kept_cell (K := K) (hKP _ kx) (hcs 3 _ rfl)
  have ma4 := kept_cell (K := K) (hKP _ kx) (hcs 4 _ rfl)
  have ma5 := kept_cell (K := K) (hKP _ kx) (hcs 5 _ rfl)
  have mb0 := kept_cell (K := K) (hKP _ ky) (hds 0 _ rfl)
  have mb1 := kept_cell (K := K) (hKP _ ky) (hds 1 _ rfl)
  have mb2 := kept_cell (K := K) (hKP _ ky) (hds 2 _ rfl)
  have mb3 := kept_cell (K := K) (hKP _ ky) (hds 3 _ rfl)
  have mb4 := kept_cell (K := K) (hKP _ ky) (hds 4 _ rfl)
  have mb5 := kept_cell (K := K) (hKP _ ky) (hds 5 _ rfl)
  simp only [Nat.add_zero] at ma0 mb0
  clear hcs hds
  cases h with
  | zero => exact False.elim rt
  | succ h =>
  obtain ⟨-, o1', c1', o2', c2', o3', c3', e1, -, f1, f2, f3, r1, r2, r3⟩ := rt
  obtain ⟨-, p1', d1', p2', d2', p3', d3', e2, -, g1, g2, g3, q1, q2, q3⟩ := ru
  simp only [List.cons.injEq, Value.slice.injEq, true_and, and_true] at e1 e2
  obtain ⟨⟨rfl, rfl⟩, ⟨rfl, rfl⟩, rfl, rfl⟩ := e1
  obtain ⟨⟨rfl, rfl⟩, ⟨rfl, rfl⟩, rfl, rfl⟩ := e2
  have R1 := hide r1
  have R2 := hide r2
  have R3 := hide r3
  have Q1 := hide q1
  have Q2 := hide q2
  have Q3 := hide q3
  have F1 := hide f1.1
  have F2 := hide f2.1
  have F3 := hide f3.1
  have G1 := hide g1.1
  have G2 := hide g2.1
  have G3 := hide g3.1
  have HH := hide hh
  have HP := hide hp
  have HKP := hide hKP
  have HN0 := hide hn0
  have HN1 := hide hn1
  have HN2 := hide hn2
  clear r1 r2 r3 q1 q2 q3 f1 f2 f3 g1 g2 g3 hh hp hKP hn0 hn1 hn2 kx ky
  have hne0 : Nonempty (KeptW K w) := kept_nonempty K w
  go_enter Try.func37, Try.ntmps37
  go_upto_region 1 with fail
  simp only [List.append_eq, List.cons_append, List.nil_append]
  refine wp_region_cuts (S := fun w' => ∃ q : KeptW K w, w' = q.w) [43, 13, 13] (by kernel_rfl) (by kernel_rfl) (by kernel_rfl) ⟨⟨_, keeps_drew K w 1⟩, rfl⟩ ?_
  simp only [wpCuts, List.take_succ_cons, List.take_zero, List.drop_succ_cons, List.drop_zero]
  by_cases hk : t.k = u.k
  case neg =>
    have hk2 : (t.k == u.k) = false := by simpa using hk
    have HRT : Hid (rootE t u = false) := by show rootE t u = false; unfold rootE; rw [decide_eq_false hk]; rfl
    clear hk
    repeat (first | go_big_quiet_skip | (go_big_quiet_want; go_big_quiet_op; go_big_quiet_on))
    refine wpQuiet_nil ?_
    go_wp2
    refine ⟨⟨⟨(w.drewN 1), (keeps_drew K w 1)⟩, rfl⟩, ?_⟩
    repeat (first | go_big_quiet_skip | (go_big_quiet_want; go_big_quiet_op; go_big_quiet_on))
    refine wpQuiet_nil ?_
    go_wp2
    refine ⟨⟨⟨(w.drewN 1), (keeps_drew K w 1)⟩, rfl⟩, ?_⟩
    repeat (first | go_big_quiet_skip | (go_big_quiet_want; go_big_quiet_op; go_big_quiet_on))
    refine wpQuiet_nil ?_
    go_wp2
    refine ⟨⟨⟨(w.drewN 1), (keeps_drew K w 1)⟩, rfl⟩, ?_⟩
    repeat (first | go_big_quiet_skip | (go_big_quiet_want; go_big_quiet_op; go_big_quiet_on))
    refine wpQuiet_nil ?_
    go_wp2
    go_ret
    exact ⟨ret_bool HRT.out.symm, (keeps_drew K w 1), fun hx => (by rw [HRT.out] at hx; cases hx)⟩
  have hk2 : (t.k == u.k) = true := by simpa using hk
  have HKE := hide hk
  clear hk
  cases hq : (t.s.toList == u.s.toList)
  · have HRT : Hid (rootE t u = false) := by show rootE t u = false; unfold rootE eqS; rw [hq, Bool.false_and, Bool.and_false]
    repeat (first | go_big_quiet_skip | (go_big_quiet_want; go_big_quiet_op; go_big_quiet_on))
    refine wpQuiet_nil ?_
    go_wp2
    refine ⟨⟨⟨(w.drewN 1), (keeps_drew K w 1)⟩, rfl⟩, ?_⟩
    repeat (first | go_big_quiet_skip | (go_big_quiet_want; go_big_quiet_op; go_big_quiet_on))
    refine wpQuiet_nil ?_
    go_wp2
    refine ⟨⟨⟨(w.drewN 1), (keeps_drew K w 1)⟩, rfl⟩, ?_⟩
    repeat (first | go_big_quiet_skip | (go_big_quiet_want; go_big_quiet_op; go_big_quiet_on))
    refine wpQuiet_nil ?_
    go_wp2
    refine ⟨⟨⟨(w.drewN 1), (keeps_drew K w 1)⟩, rfl⟩, ?_⟩
    repeat (first | go_big_quiet_skip | (go_big_quiet_want; go_big_quiet_op; go_big_quiet_on))
    refine wpQuiet_nil ?_
    go_wp2
    go_ret
    exact ⟨ret_bool HRT.out.symm, (keeps_drew K w 1), fun hx => (by rw [HRT.out] at hx; cases hx)⟩
  have HQE : Hid (eqS t.s u.s = true) := hq
  by_cases hn : t.n = u.n
  case neg =>
    have hn2 : (t.n == u.n) = false := by simpa using hn
    have HRT : Hid (rootE t u = false) := by show rootE t u = false; unfold rootE; rw [decide_eq_false hn, Bool.false_and, Bool.and_false, Bool.and_false]
    clear hn
    repeat (first | go_big_quiet_skip | (go_big_quiet_want; go_big_quiet_op; go_big_quiet_on))
    refine wpQuiet_nil ?_
    go_wp2
    refine ⟨⟨⟨(w.drewN 1), (keeps_drew K w 1)⟩, rfl⟩, ?_⟩
    repeat (first | go_big_quiet_skip | (go_big_quiet_want; go_big_quiet_op; go_big_quiet_on))
    refine wpQuiet_nil ?_
    go_wp2
    refine ⟨⟨⟨(w.drewN 1), (keeps_drew K w 1)⟩, rfl⟩, ?_⟩
    repeat (first | go_big_quiet_skip | (go_big_quiet_want; go_big_quiet_op; go_big_quiet_on))
    refine wpQuiet_nil ?_
    go_wp2
    refine ⟨⟨⟨(w.drewN 1), (keeps_drew K w 1)⟩, rfl⟩, ?_⟩
    repeat (first | go_big_quiet_skip | (go_big_quiet_want; go_big_quiet_op; go_big_quiet_on))
    refine wpQuiet_nil ?_
    go_wp2
    go_ret
    exact ⟨ret_bool HRT.out.symm, (keeps_drew K w 1), fun hx => (by rw [HRT.out] at hx; cases hx)⟩
  have hn2 : (t.n == u.n) = true := by simpa using hn
  have HNE := hide hn
  clear hn
  by_cases hl : t.l.length = u.l.length
  case neg =>
    have HL := hide hl
    have HRT : Hid (rootE t u = false) := by show rootE t u = false; unfold rootE; rw [decide_eq_false hl, Bool.false_and, Bool.and_false, Bool.and_false, Bool.and_false]
    clear hl
    repeat (first | go_big_quiet_skip | (go_big_quiet_want; go_big_quiet_op; go_big_quiet_on))
    refine wpQuiet_nil ?_
    go_wp2_with fail
    refine (held_putAll_ex o1 p1 c1 d1 g t.l u.l (w.drewN 1) K _ _ (HH.out.later (w' := w.drewN 1) ⟨rfl, rfl, rfl, Nat.le_refl _, fun _ _ => rfl⟩) HKP.out (R1.out.frame ((st_keeps (keeps_drew K w 1)).less HKP.out) (fun _ h => h) (R' := fun _ _ => True) fun _ _ _ => trivial) (Q1.out.frame ((st_keeps (keeps_drew K w 1)).less HKP.out) (fun _ h => h) (R' := fun _ _ => True) fun _ _ _ => trivial) F1.out G1.out (fun b hb => (HP.out b hb).block ((keeps_drew K w 1).block b (HKP.out b hb))) HN0.out).mono ?_
    rintro e' w1 ⟨rfl, hm, hk⟩
    rw [decide_eq_false HL.out]
    have HM1 := hide hm
    have HK1 := hide (Keeps.trans (keeps_drew K w 1) hk)
    clear hm hk
    go_wp2
    refine ⟨⟨⟨w1, HK1.out⟩, rfl⟩, ?_⟩
    repeat (first | go_big_quiet_skip | (go_big_quiet_want; go_big_quiet_op; go_big_quiet_on))
    refine wpQuiet_nil ?_
    go_wp2
    refine ⟨⟨⟨w1, HK1.out⟩, rfl⟩, ?_⟩
    repeat (first | go_big_quiet_skip | (go_big_quiet_want; go_big_quiet_op; go_big_quiet_on))
    refine wpQuiet_nil ?_
    go_wp2
    refine ⟨⟨⟨w1, HK1.out⟩, rfl⟩, ?_⟩
    repeat (first | go_big_quiet_skip | (go_big_quiet_want; go_big_quiet_op; go_big_quiet_on))
    refine wpQuiet_nil ?_
    go_wp2
    go_ret
    exact ⟨ret_bool HRT.out.symm, HK1.out, fun hx => (by rw [HRT.out] at hx; cases hx)⟩
  have HL := hide hl
  clear hl
  by_cases hd : t.ds.length = u.ds.length
  case neg =>
    have HD := hide hd
    have HRT : Hid (rootE t u = false) := by show rootE t u = false; unfold rootE; rw [decide_eq_false hd, Bool.false_and, Bool.and_false, Bool.and_false, Bool.and_false, Bool.and_false]
    clear hd
    repeat (first | go_big_quiet_skip | (go_big_quiet_want; go_big_quiet_op; go_big_quiet_on))
    refine wpQuiet_nil ?_
    go_wp2_with fail
    refine (held_putAll_ex o1 p1 c1 d1 g t.l u.l (w.drewN 1) K _ _ (HH.out.later (w' := w.drewN 1) ⟨rfl, rfl, rfl, Nat.le_refl _, fun _ _ => rfl⟩) HKP.out (R1.out.frame ((st_keeps (keeps_drew K w 1)).less HKP.out) (fun _ h => h) (R' := fun _ _ => True) fun _ _ _ => trivial) (Q1.out.frame ((st_keeps (keeps_drew K w 1)).less HKP.out) (fun _ h => h) (R' := fun _ _ => True) fun _ _ _ => trivial) F1.out G1.out (fun b hb => (HP.out b hb).block ((keeps_drew K w 1).block b (HKP.out b hb))) HN0.out).mono ?_
    rintro e' w1 ⟨rfl, hm, hk⟩
    rw [decide_eq_true HL.out]
    have HM1 := hide hm
    have HK1 := hide (Keeps.trans (keeps_drew K w 1) hk)
    clear hm hk
    go_wp2
    refine ⟨⟨⟨w1, HK1.out⟩, rfl⟩, ?_⟩
    repeat (first | go_big_quiet_skip | (go_big_quiet_want; go_big_quiet_op; go_big_quiet_on))
    refine wpQuiet_nil ?_
    go_wp2_with fail
    refine (held_putAll_de o2 p2 c2 d2 g t.ds u.ds w1 K _ _ HM1.out HKP.out (R2.out.frame ((st_keeps HK1.out).less HKP.out) (fun _ h => h) (R' := fun _ _ => True) fun _ _ _ => trivial) (Q2.out.frame ((st_keeps HK1.out).less HKP.out) (fun _ h => h) (R' := fun _ _ => True) fun _ _ _ => trivial) F2.out G2.out (fun b hb => (HP.out b hb).block (HK1.out.block b (HKP.out b hb))) (by rw [upd_other _ _ (by omega)]; exact HN1.out)).mono ?_
    rintro e' w2 ⟨rfl, hm, hk⟩
    rw [decide_eq_false HD.out]
    have HM2 := hide hm
    have HK2 := hide (Keeps.trans HK1.out hk)
    clear hm hk
    go_wp2
    refine ⟨⟨⟨w2, HK2.out⟩, rfl⟩, ?_⟩
    repeat (first | go_big_quiet_skip | (go_big_quiet_want; go_big_quiet_op; go_big_quiet_on))
    refine wpQuiet_nil ?_
    go_wp2
    refine ⟨⟨⟨w2, HK2.out⟩, rfl⟩, ?_⟩
    repeat (first | go_big_quiet_skip | (go_big_quiet_want; go_big_quiet_op; go_big_quiet_on))
    refine wpQuiet_nil ?_
    go_wp2
    go_ret
    exact ⟨ret_bool HRT.out.symm, HK2.out, fun hx => (by rw [HRT.out] at hx; cases hx)⟩
  have HD := hide hd
  have HRT : Hid (rootE t u = decide (t.al.length = u.al.length)) := by show rootE t u = _; unfold rootE; rw [decide_eq_true HKE.out, HQE.out, decide_eq_true HNE.out, decide_eq_true HL.out, decide_eq_true HD.out]; simp
  clear hd
  repeat (first | go_big_quiet_skip | (go_big_quiet_want; go_big_quiet_op; go_big_quiet_on))
  refine wpQuiet_nil ?_
  go_wp2_with fail
  refine (held_putAll_ex o1 p1 c1 d1 g t.l u.l (w.drewN 1) K _ _ (HH.out.later (w' := w.drewN 1) ⟨rfl, rfl, rfl, Nat.le_refl _, fun _ _ => rfl⟩) HKP.out (R1.out.frame ((st_keeps (keeps_drew K w 1)).less HKP.out) (fun _ h => h) (R' := fun _ _ => True) fun _ _ _ => trivial) (Q1.out.frame ((st_keeps (keeps_drew K w 1)).less HKP.out) (fun _ h => h) (R' := fun _ _ => True) fun _ _ _ => trivial) F1.out G1.out (fun b hb => (HP.out b hb).block ((keeps_drew K w 1).block b (HKP.out b hb))) HN0.out).mono ?_
  rintro e' w1 ⟨rfl, hm, hk⟩
  rw [decide_eq_true HL.out]
  have HM1 := hide hm
  have HK1 := hide (Keeps.trans (keeps_drew K w 1) hk)
  clear hm hk
  go_wp2
  refine ⟨⟨⟨w1, HK1.out⟩, rfl⟩, ?_⟩
  repeat (first | go_big_quiet_skip | (go_big_quiet_want; go_big_quiet_op; go_big_quiet_on))
  refine wpQuiet_nil ?_
  go_wp2_with fail
  refine (held_putAll_de o2 p2 c2 d2 g t.ds u.ds w1 K _ _ HM1.out HKP.out (R2.out.frame ((st_keeps HK1.out).less HKP.out) (fun _ h => h) (R' := fun _ _ => True) fun _ _ _ => trivial) (Q2.out.frame ((st_keeps HK1.out).less HKP.out) (fun _ h => h) (R' := fun _ _ => True) fun _ _ _ => trivial) F2.out G2.out (fun b hb => (HP.out b hb).block (HK1.out.block b (HKP.out b hb))) (by rw [upd_other _ _ (by omega)]; exact HN1.out)).mono ?_
  rintro e' w2 ⟨rfl, hm, hk⟩
  rw [decide_eq_true HD.out]
  have HM2 := hide hm
  have HK2 := hide (Keeps.trans HK1.out hk)
  clear hm hk
  go_wp2
  refine ⟨⟨⟨w2, HK2.out⟩, rfl⟩, ?_⟩
  repeat (first | go_big_quiet_skip | (go_big_quiet_want; go_big_quiet_op; go_big_quiet_on))
  refine wpQuiet_nil ?_
  go_wp2_with fail
  refine (held_putAll_al o3 p3 c3 d3 g t.al u.al w2 K _ _ HM2.out HKP.out (R3.out.frame ((st_keeps HK2.out).less HKP.out) (fun _ h => h) (R' := fun _ _ => True) fun _ _ _ => trivial) (Q3.out.frame ((st_keeps HK2.out).less HKP.out) (fun _ h => h) (R' := fun _ _ => True) fun _ _ _ => trivial) F3.out G3.out (fun b hb => (HP.out b hb).block (HK2.out.block b (HKP.out b hb))) (by rw [upd_other _ _ (by omega), upd_other _ _ (by omega)]; exact HN2.out)).mono ?_
  rintro e' w3 ⟨rfl, hm, hk⟩
  have HM3 := hide hm
  have HK3 := hide (Keeps.trans HK2.out hk)
  clear hm hk
  go_wp2
  refine ⟨⟨⟨w3, HK3.out⟩, rfl⟩, ?_⟩
  repeat (first | go_big_quiet_skip | (go_big_quiet_want; go_big_quiet_op; go_big_quiet_on))
  refine wpQuiet_nil ?_
  go_wp2
  go_ret
  refine ⟨ret_bool HRT.out.symm, HK3.out, fun _ => ?_⟩
  have h9 := HM3.out
  rw [upd_other _ _ (show (1 : Nat) ≠ 0 by omega), upd_other _ _ (show (1 : Nat) ≠ 0 by omega), upd_other _ _ (show (2 : Nat) ≠ 1 by omega), upd_other _ _ (show (2 : Nat) ≠ 0 by omega), upd_other _ _ (show (2 : Nat) ≠ 1 by omega), upd_other _ _ (show (2 : Nat) ≠ 0 by omega)] at h9
  exact h9
end Go.Proofs.Yteoghpefilghdal

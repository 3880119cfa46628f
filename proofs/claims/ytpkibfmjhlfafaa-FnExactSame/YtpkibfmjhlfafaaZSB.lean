/- The program's Same: a pair of results looked at. -/
import Derived.Test.YtpkibfmjhlfafaaZSA
namespace Go.Proofs.Ytpkibfmjhlfafaa.Sr
open Go.ChangeShapes Go.WideShapes Go.ChangeAt Go.RowKit Go.Proofs.Ytpkibfmjhlfafaa

/-- The worlds in which what is looked at is as it was. -/
abbrev KeptW (K : Nat → Prop) (w : World) : Type := Cl (fun v => Keeps K w v)
theorem kept_cell {K : Nat → Prop} {w : World} {b j : Nat} {v : Value} (kb : K b) (h : w.cell? ⟨b, j, none⟩ = some v) : ∀ q : KeptW K w, q.w.cell? ⟨b, j, none⟩ = some v := fun q =>
  (World.cell?_of_block (a := ⟨b, j, none⟩) (q.h.block b kb)).trans h
theorem kept_nonempty (K : Nat → Prop) (w : World) : Nonempty (KeptW K w) := ⟨⟨w, Keeps.refl _ _⟩⟩
theorem keeps_drew (K : Nat → Prop) (w : World) (n : Nat) : Keeps K w (w.drewN n) := ⟨rfl, rfl, rfl, Nat.le_refl _, fun _ _ => rfl⟩
theorem st_keeps {K : Nat → Prop} {w w' : World} (h : Keeps K w w') : Stays K w w' := ⟨h.size, fun b hb _ => h.block b hb⟩
theorem cells_keep {K : Nat → Prop} {W w : World} {b o : Nat} {cs : List Value} (hk : Keeps K W w) (kb : K b) (h : CellsAt W ⟨b, o, none⟩ cs) : CellsAt w ⟨b, o, none⟩ cs := fun j u hu =>
  (World.cell?_of_block (a := ⟨b, o + j, none⟩) (hk.block b kb)).trans (h j u hu)
def rootT (t u : Tr) : Bool := decide (t.k = u.k) && (eqS t.s u.s && (decide (t.n = u.n) && decide (t.l.length = u.l.length)))
theorem rootT_self (t : Tr) : rootT t t = true := by
  unfold rootT
  rw [(eqS_iff t.s t.s).2 rfl]
  simp
theorem rootT_parts {t u : Tr} (h : rootT t u = true) : (t.k = u.k ∧ t.s = u.s ∧ t.n = u.n) ∧ t.l.length = u.l.length := by
  unfold rootT at h
  simp only [Bool.and_eq_true, decide_eq_true_eq, eqS_iff] at h
  exact ⟨⟨h.1, h.2.1, h.2.2.1⟩, h.2.2.2⟩

set_option maxHeartbeats 8000000 in
set_option maxRecDepth 100000 in
theorem same1_any {h : Nat} (xb xo yb yo g : Nat) (w : World) (K KP : Nat → Prop) (hKP : ∀ b, KP b → K b) (ls ks : List (Addr × Addr)) (hh : BoxP w K g ls ks) (t u : Tr) (o1 p1 : Option Addr) (c1 d1 : Nat)
    (rt : tyR KP w h t [.int .i64 t.k, .string t.s, .int .i64 t.n, .slice o1 t.l.length c1]) (ru : tyR KP w h u [.int .i64 u.k, .string u.s, .int .i64 u.n, .slice p1 u.l.length d1]) (hcs : CellsAt w ⟨xb, xo, none⟩ [.int .i64 t.k, .string t.s, .int .i64 t.n, .slice o1 t.l.length c1]) (hds : CellsAt w ⟨yb, yo, none⟩ [.int .i64 u.k, .string u.s, .int .i64 u.n, .slice p1 u.l.length d1])
    (kx : KP xb) (ky : KP yb) (hp : ∀ b, KP b → PlainAt w ⟨b, 0, none⟩) (hn3 : ls.length + t.l.length ≤ 10000000) :
    Calls Try.prog 16 #[.pointer (some ⟨xb, xo, none⟩), .pointer (some ⟨yb, yo, none⟩), .pointer (some ⟨g, 0, none⟩)] w fun e' w' => e' = .returned (.bool (rootT t u)) ∧ Keeps K w w' ∧ (rootT t u = true → BoxP w' K g (ls ++ puts ks o1 p1 t.l.length u.l.length) (ks ++ puts ks o1 p1 t.l.length u.l.length)) := by
  have ma0 := kept_cell (K := K) (hKP _ kx) (hcs 0 _ rfl)
  have mb0 := kept_cell (K := K) (hKP _ ky) (hds 0 _ rfl)
  have ma1 := kept_cell (K := K) (hKP _ kx) (hcs 1 _ rfl)
  have mb1 := kept_cell (K := K) (hKP _ ky) (hds 1 _ rfl)
  have ma2 := kept_cell (K := K) (hKP _ kx) (hcs 2 _ rfl)
  have mb2 := kept_cell (K := K) (hKP _ ky) (hds 2 _ rfl)
  have ma3 := kept_cell (K := K) (hKP _ kx) (hcs 3 _ rfl)
  have mb3 := kept_cell (K := K) (hKP _ ky) (hds 3 _ rfl)
  simp only [Nat.add_zero] at ma0 mb0
  clear hcs hds
  cases h with
  | zero => exact False.elim rt
  | succ h =>
  obtain ⟨-, -, -, o1', c1', e1, -, f1, r1⟩ := rt
  obtain ⟨-, -, -, p1', d1', e2, -, g1, q1⟩ := ru
  simp only [List.cons.injEq, Value.slice.injEq, true_and, and_true] at e1 e2
  obtain ⟨rfl, rfl⟩ := e1
  obtain ⟨rfl, rfl⟩ := e2
  have R1 := hide r1
  have Q1 := hide q1
  have F1 := hide f1.1
  have G1 := hide g1.1
  have HH := hide hh
  have HP := hide hp
  have HKP := hide hKP
  have HN3 := hide hn3
  clear r1 q1 f1 g1 hh hp hKP hn3 kx ky
  have hne0 : Nonempty (KeptW K w) := kept_nonempty K w
  go_enter Try.func16, Try.ntmps16
  go_upto_region 1 with fail
  refine wp_region_cuts (S := fun w' => ∃ q : KeptW K w, w' = q.w) [40] (by kernel_rfl) (by kernel_rfl) (by kernel_rfl) ⟨⟨_, keeps_drew K w 1⟩, rfl⟩ ?_
  simp only [wpCuts, List.take_succ_cons, List.take_zero, List.drop_succ_cons, List.drop_zero]
  by_cases hk : t.k = u.k
  case neg =>
    have hk2 : (t.k == u.k) = false := by simpa using hk
    have HRT : Hid (rootT t u = false) := by show rootT t u = false; unfold rootT; rw [decide_eq_false hk]; rfl
    clear hk
    repeat (first | go_big_quiet_skip | (go_big_quiet_want; go_big_quiet_op; go_big_quiet_on))
    refine wpQuiet_nil ?_
    go_wp2
    refine ⟨⟨⟨(w.drewN 1), (keeps_drew K w 1)⟩, rfl⟩, ?_⟩
    repeat (first | go_big_quiet_skip | (go_big_quiet_want; go_big_quiet_op; go_big_quiet_on))
    refine wpQuiet_nil ?_
    go_wp2
    go_ret
    exact ⟨ret_bool HRT.out.symm, keeps_drew K w 1, fun hx => (by rw [HRT.out] at hx; cases hx)⟩
  have hk2 : (t.k == u.k) = true := by simpa using hk
  have HKE := hide hk
  clear hk
  cases hq : (t.s.toList == u.s.toList)
  · have HRT : Hid (rootT t u = false) := by show rootT t u = false; unfold rootT eqS; rw [hq, Bool.false_and, Bool.and_false]
    repeat (first | go_big_quiet_skip | (go_big_quiet_want; go_big_quiet_op; go_big_quiet_on))
    refine wpQuiet_nil ?_
    go_wp2
    refine ⟨⟨⟨(w.drewN 1), (keeps_drew K w 1)⟩, rfl⟩, ?_⟩
    repeat (first | go_big_quiet_skip | (go_big_quiet_want; go_big_quiet_op; go_big_quiet_on))
    refine wpQuiet_nil ?_
    go_wp2
    go_ret
    exact ⟨ret_bool HRT.out.symm, keeps_drew K w 1, fun hx => (by rw [HRT.out] at hx; cases hx)⟩
  have HQE : Hid (eqS t.s u.s = true) := hq
  by_cases hn : t.n = u.n
  case neg =>
    have hn2 : (t.n == u.n) = false := by simpa using hn
    have HRT : Hid (rootT t u = false) := by show rootT t u = false; unfold rootT; rw [decide_eq_false hn, Bool.false_and, Bool.and_false, Bool.and_false]
    clear hn
    repeat (first | go_big_quiet_skip | (go_big_quiet_want; go_big_quiet_op; go_big_quiet_on))
    refine wpQuiet_nil ?_
    go_wp2
    refine ⟨⟨⟨(w.drewN 1), (keeps_drew K w 1)⟩, rfl⟩, ?_⟩
    repeat (first | go_big_quiet_skip | (go_big_quiet_want; go_big_quiet_op; go_big_quiet_on))
    refine wpQuiet_nil ?_
    go_wp2
    go_ret
    exact ⟨ret_bool HRT.out.symm, keeps_drew K w 1, fun hx => (by rw [HRT.out] at hx; cases hx)⟩
  have hn2 : (t.n == u.n) = true := by simpa using hn
  have HRT : Hid (rootT t u = decide (t.l.length = u.l.length)) := by show rootT t u = _; unfold rootT; rw [decide_eq_true HKE.out, HQE.out, decide_eq_true hn]; simp
  clear hn
  repeat (first | go_big_quiet_skip | (go_big_quiet_want; go_big_quiet_op; go_big_quiet_on))
  refine wpQuiet_nil ?_
  go_wp2_with fail
  refine (box_putAll o1 p1 c1 d1 g t.l u.l (w.drewN 1) K _ _ (HH.out.later (w' := w.drewN 1) ⟨rfl, rfl, rfl, Nat.le_refl _, fun _ _ => rfl⟩) HKP.out (R1.out.frame ((st_keeps (keeps_drew K w 1)).less HKP.out) (fun _ h => h) (R' := fun _ _ => True) fun _ _ _ => trivial) (Q1.out.frame ((st_keeps (keeps_drew K w 1)).less HKP.out) (fun _ h => h) (R' := fun _ _ => True) fun _ _ _ => trivial) F1.out G1.out (fun b hb => (HP.out b hb).block ((keeps_drew K w 1).block b (HKP.out b hb))) HN3.out).mono ?_
  rintro e' w1 ⟨rfl, hm, hk⟩
  have HM1 := hide hm
  have HK1 := hide (Keeps.trans (keeps_drew K w 1) hk)
  clear hm hk
  go_wp2
  refine ⟨⟨⟨w1, HK1.out⟩, rfl⟩, ?_⟩
  repeat (first | go_big_quiet_skip | (go_big_quiet_want; go_big_quiet_op; go_big_quiet_on))
  refine wpQuiet_nil ?_
  go_wp2
  go_ret
  exact ⟨ret_bool HRT.out.symm, HK1.out, fun _ => HM1.out⟩

/-- What one look answers and leaves. -/
def Look (W : World) (K KP : Nat → Prop) (F : Prop) (g h : Nat) (x y : Addr) (t u : Tr) (ls ks : List (Addr × Addr)) (e : Ending) (w' : World) : Prop :=
  ∃ b, e = .returned (.bool b) ∧ Keeps K W w' ∧ (b = false → t ≠ u) ∧ (b = true → ∃ a, BoxP w' K g (ls ++ a) (ks ++ a) ∧ ((F → t = u) → WtR W KP F a (ndr h t - 1)) ∧ DoneR W KP (ks ++ a) (x, y))
theorem look_res {W w : World} {K KP : Nat → Prop} {F : Prop} {g h h' : Nat} {x y : Addr} {t u : Tr} {ls ks : List (Addr × Addr)} (hKP : ∀ b, KP b → K b) (hk : Keeps K W w) (hp : ∀ b, KP b → PlainAt W ⟨b, 0, none⟩) (hh : BoxP w K g ls ks) (ax : AtR W KP h x t) (ay : AtR W KP h' y u)
    (hn3 : ls.length + t.l.length ≤ 10000000) :
    Calls Try.prog 16 #[.pointer (some x), .pointer (some y), .pointer (some ⟨g, 0, none⟩)] w (Look W K KP F g h x y t u ls ks) := by
  obtain ⟨xb, xo, xs⟩ := x
  obtain ⟨yb, yo, ys⟩ := y
  obtain ⟨sx, kx, cs, lc, cx, rx⟩ := ax
  obtain ⟨sy, ky, ds, ld, cy, ry⟩ := ay
  simp only at sx sy kx ky
  subst sx sy
  have rx2 : tyR KP W h t cs := rx
  have ry2 : tyR KP W h' u ds := ry
  obtain ⟨o1, c1, rfl⟩ := ty_form rx2
  obtain ⟨p1, d1, rfl⟩ := ty_form ry2
  have st := (st_keeps hk).less hKP
  have RX := tyR_le (h' := max h h') (Nat.le_max_left _ _) _ _ (tyR_frame st (fun _ h => h) h _ _ rx2)
  have RY := tyR_le (h' := max h h') (Nat.le_max_right _ _) _ _ (tyR_frame st (fun _ h => h) h' _ _ ry2)
  refine (same1_any xb xo yb yo g w K KP hKP ls ks hh t u o1 p1 c1 d1 RX RY (cells_keep hk (hKP _ kx) cx) (cells_keep hk (hKP _ ky) cy) kx ky (fun b hb => (hp b hb).block (hk.block b (hKP b hb))) hn3).mono ?_
  rintro e w' ⟨rfl, hk2, hm⟩
  refine ⟨rootT t u, rfl, hk.trans hk2, fun hb e => ?_, fun hb => ⟨_, hm hb, ?_⟩⟩
  · rw [e, rootT_self] at hb; cases hb
  · obtain ⟨⟨k1, k2, k3⟩, l1⟩ := rootT_parts hb
    cases h with
    | zero => exact rx2.elim
    | succ h =>
    cases h' with
    | zero => exact ry2.elim
    | succ h' =>
    obtain ⟨a1, a2, a3, o1', c1', e1, -, -, r1⟩ := rx2
    obtain ⟨b1, b2, b3, p1', d1', e2, -, -, q1⟩ := ry2
    simp only [List.cons.injEq, Value.slice.injEq, true_and, and_true] at e1 e2
    obtain ⟨rfl, rfl⟩ := e1
    obtain ⟨rfl, rfl⟩ := e2
    refine ⟨fun hF => ?_, t, u, ⟨_, rfl, kx, _, rfl, cx, rx⟩, ⟨_, rfl, ky, _, rfl, cy, ry⟩, ⟨k1, k2, k3⟩, l1, puts_kids ks r1 q1 l1⟩
    have h1 := puts_wt (F := F) ks r1 q1 l1 (fun f => by rw [hF f])
    refine h1.mono ?_
    show _ ≤ 1 + (t.l.map (ndr h)).sum - 1
    omega
end Go.Proofs.Ytpkibfmjhlfafaa.Sr

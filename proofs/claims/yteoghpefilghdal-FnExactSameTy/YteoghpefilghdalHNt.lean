/- The program's held.ty: a pair of types. -/
import Derived.Test.YteoghpefilghdalHO
import Derived.Test.YteoghpefilghdalPA
namespace Go.Proofs.Yteoghpefilghdal
open Go.ChangeShapes Go.WideShapes Go.ChangeAt Go.RowKit

def rootT (t u : Tr) : Bool := decide (t.k = u.k) && (eqS t.s u.s && (decide (t.n = u.n) && decide (t.l.length = u.l.length)))

set_option maxHeartbeats 8000000 in
set_option maxRecDepth 100000 in
theorem held_ty {h : Nat} (xb xo yb yo g : Nat) (w : World) (K KP : Nat → Prop) (hKP : ∀ b, KP b → K b) (ls ks : Nat → List (Addr × Addr)) (hh : HeldMem TT w K g ls ks) (t u : Tr) (o1 p1 : Option Addr) (c1 d1 : Nat)
    (rt : tyR KP w h t [.int .i64 t.k, .string t.s, .int .i64 t.n, .slice o1 t.l.length c1]) (ru : tyR KP w h u [.int .i64 u.k, .string u.s, .int .i64 u.n, .slice p1 u.l.length d1]) (hcs : CellsAt w ⟨xb, xo, none⟩ [.int .i64 t.k, .string t.s, .int .i64 t.n, .slice o1 t.l.length c1]) (hds : CellsAt w ⟨yb, yo, none⟩ [.int .i64 u.k, .string u.s, .int .i64 u.n, .slice p1 u.l.length d1])
    (kx : KP xb) (ky : KP yb) (hp : ∀ b, KP b → PlainAt w ⟨b, 0, none⟩) (hn3 : (ls 3).length + t.l.length ≤ 10000000) :
    Calls Try.prog 43 #[.pointer (some ⟨g, 0, none⟩), .pointer (some ⟨xb, xo, none⟩), .pointer (some ⟨yb, yo, none⟩)] w fun e' w' => e' = .returned (.bool (rootT t u)) ∧ Keeps K w w' ∧ (rootT t u = true → HeldMem TT w' K g (upd ls 3 (ls 3 ++ puts (ks 3) o1 p1 4 t.l.length u.l.length)) (upd ks 3 (ks 3 ++ puts (ks 3) o1 p1 4 t.l.length u.l.length))) := by
  have ma0 := kept_cell (K := K) (hKP _ kx) (hcs 0 _ rfl)
  have mb0 := kept_cell (K := K) (hKP _ ky) (hds 0 _ rfl)
  have ma1 := kept_cell (K := K) (hKP _ kx) (hcs 1 _ rfl)
  have mb1 := kept_cell (K := K) (hKP _ ky) (hds 1 _ rfl)
  have ma2 := kept_cell (K := K) (hKP _ kx) (hcs 2 _ rfl)
  have mb2 := kept_cell (K := K) (hKP _ ky) (hds 2 _ rfl)
  have ma3 := kept_cell (K := K) (hKP _ kx) (hcs 3 _ rfl)
  have mb3 := kept_cell (K := K) (hKP _ ky) (hds 3 _ rfl)
  simp only [Nat.add_zero] at ma0 mb0
  clear hcs hds
  cases h with
  | zero => exact False.elim rt
  | succ h =>
  obtain ⟨-, -, -, o1', c1', e1, -, f1, r1⟩ := rt
  obtain ⟨-, -, -, p1', d1', e2, -, g1, q1⟩ := ru
  simp only [List.cons.injEq, Value.slice.injEq, true_and, and_true] at e1 e2
  obtain ⟨rfl, rfl⟩ := e1
  obtain ⟨rfl, rfl⟩ := e2
  have R1 := hide r1
  have Q1 := hide q1
  have F1 := hide f1.1
  have G1 := hide g1.1
  have HH := hide hh
  have HP := hide hp
  have HKP := hide hKP
  have HN3 := hide hn3
  clear r1 q1 f1 g1 hh hp hKP hn3 kx ky
  have hne0 : Nonempty (KeptW K w) := kept_nonempty K w
  go_enter Try.func43, Try.ntmps43
  go_upto_region 1 with fail
  refine wp_region_cuts (S := fun w' => ∃ q : KeptW K w, w' = q.w) [43] (by kernel_rfl) (by kernel_rfl) (by kernel_rfl) ⟨⟨_, keeps_drew K w 1⟩, rfl⟩ ?_
  simp only [wpCuts, List.take_succ_cons, List.take_zero, List.drop_succ_cons, List.drop_zero]
  by_cases hk : t.k = u.k
  case neg =>
    have hk2 : (t.k == u.k) = false := by simpa using hk
    have HRT : Hid (rootT t u = false) := by show rootT t u = false; unfold rootT; rw [decide_eq_false hk]; rfl
    clear hk
    repeat (first | go_big_quiet_skip | (go_big_quiet_want; go_big_quiet_op; go_big_quiet_on))
    refine wpQuiet_nil ?_
    go_wp2
    refine ⟨⟨⟨(w.drewN 1), (keeps_drew K w 1)⟩, rfl⟩, ?_⟩
    repeat (first | go_big_quiet_skip | (go_big_quiet_want; go_big_quiet_op; go_big_quiet_on))
    refine wpQuiet_nil ?_
    go_wp2
    go_ret
    exact ⟨ret_bool HRT.out.symm, keeps_drew K w 1, fun hx => (by rw [HRT.out] at hx; cases hx)⟩
  have hk2 : (t.k == u.k) = true := by simpa using hk
  have HKE := hide hk
  clear hk
  cases hq : (t.s.toList == u.s.toList)
  · have HRT : Hid (rootT t u = false) := by show rootT t u = false; unfold rootT eqS; rw [hq, Bool.false_and, Bool.and_false]
    repeat (first | go_big_quiet_skip | (go_big_quiet_want; go_big_quiet_op; go_big_quiet_on))
    refine wpQuiet_nil ?_
    go_wp2
    refine ⟨⟨⟨(w.drewN 1), (keeps_drew K w 1)⟩, rfl⟩, ?_⟩
    repeat (first | go_big_quiet_skip | (go_big_quiet_want; go_big_quiet_op; go_big_quiet_on))
    refine wpQuiet_nil ?_
    go_wp2
    go_ret
    exact ⟨ret_bool HRT.out.symm, keeps_drew K w 1, fun hx => (by rw [HRT.out] at hx; cases hx)⟩
  have HQE : Hid (eqS t.s u.s = true) := hq
  by_cases hn : t.n = u.n
  case neg =>
    have hn2 : (t.n == u.n) = false := by simpa using hn
    have HRT : Hid (rootT t u = false) := by show rootT t u = false; unfold rootT; rw [decide_eq_false hn, Bool.false_and, Bool.and_false, Bool.and_false]
    clear hn
    repeat (first | go_big_quiet_skip | (go_big_quiet_want; go_big_quiet_op; go_big_quiet_on))
    refine wpQuiet_nil ?_
    go_wp2
    refine ⟨⟨⟨(w.drewN 1), (keeps_drew K w 1)⟩, rfl⟩, ?_⟩
    repeat (first | go_big_quiet_skip | (go_big_quiet_want; go_big_quiet_op; go_big_quiet_on))
    refine wpQuiet_nil ?_
    go_wp2
    go_ret
    exact ⟨ret_bool HRT.out.symm, keeps_drew K w 1, fun hx => (by rw [HRT.out] at hx; cases hx)⟩
  have hn2 : (t.n == u.n) = true := by simpa using hn
  have HRT : Hid (rootT t u = decide (t.l.length = u.l.length)) := by show rootT t u = _; unfold rootT; rw [decide_eq_true HKE.out, HQE.out, decide_eq_true hn]; simp
  clear hn
  repeat (first | go_big_quiet_skip | (go_big_quiet_want; go_big_quiet_op; go_big_quiet_on))
  refine wpQuiet_nil ?_
  go_wp2_with fail
  refine (held_putAll_ty o1 p1 c1 d1 g t.l u.l (w.drewN 1) K _ _ (HH.out.later (w' := w.drewN 1) ⟨rfl, rfl, rfl, Nat.le_refl _, fun _ _ => rfl⟩) HKP.out (R1.out.frame ((st_keeps (keeps_drew K w 1)).less HKP.out) (fun _ h => h) (R' := fun _ _ => True) fun _ _ _ => trivial) (Q1.out.frame ((st_keeps (keeps_drew K w 1)).less HKP.out) (fun _ h => h) (R' := fun _ _ => True) fun _ _ _ => trivial) F1.out G1.out (fun b hb => (HP.out b hb).block ((keeps_drew K w 1).block b (HKP.out b hb))) HN3.out).mono ?_
  rintro e' w1 ⟨rfl, hm, hk⟩
  have HM1 := hide hm
  have HK1 := hide (Keeps.trans (keeps_drew K w 1) hk)
  clear hm hk
  go_wp2
  refine ⟨⟨⟨w1, HK1.out⟩, rfl⟩, ?_⟩
  repeat (first | go_big_quiet_skip | (go_big_quiet_want; go_big_quiet_op; go_big_quiet_on))
  refine wpQuiet_nil ?_
  go_wp2
  go_ret
  exact ⟨ret_bool HRT.out.symm, HK1.out, fun _ => HM1.out⟩
end Go.Proofs.Yteoghpefilghdal

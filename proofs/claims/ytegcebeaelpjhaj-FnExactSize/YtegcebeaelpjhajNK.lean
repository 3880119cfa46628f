/- The model's l3Size; Size of the model, whole. -/
import Derived.Test.YtegcebeaelpjhajNJ
namespace Go.Proofs.Ytegcebeaelpjhaj
open Go.ChangeShapes Go.WideShapes Go.ChangeAt Go.RowKit

set_option maxHeartbeats 2000000 in
set_option maxRecDepth 100000 in
theorem zDs_any {h : Nat} (i1 : ∀ k, h = k + 1 → ZEx k) (i2 : ∀ k, h = k + 1 → ZDs k) : ZDs h := by
  intro xs o c w hr hl hn
  have I1 := hide i1
  have I2 := hide i2
  have Q := hide hr
  have hl2 : xs.length ≤ 9223372036854775807 := hl
  generalize hSA : sumZ (cnt h).de xs = SA at hn ⊢
  have HSA := hide hSA
  clear i1 i2 hr hl hSA
  go_enter Try.func35, Try.ntmps35
  go_wp2
  go_loopw [3, 4] (fun t3 t4 wr => ∃ (i : Nat) (n : Int), i ≤ xs.length ∧ t4 = .int .i64 i ∧ t3 = .int .i64 n ∧ n = ((sumZ (cnt h).de (xs.take i) : Nat) : Int) ∧ Below w.heap.size w wr) (fun _ t4 _ => xs.length - (intOf t4).toNat)
  case atStart => exact ⟨0, 0, Nat.zero_le _, rfl, rfl, by simp [sumZ], Below.refl _ _⟩
  case round =>
    obtain ⟨i, n, hi, rfl, rfl, hnn, hbw⟩ := hrel
    have HNN := hide hnn
    have HBW := hide hbw
    have hle := sumZ_le (cnt h).de xs i
    rw [HSA.out] at hle
    have hn0 : 0 ≤ n := by omega
    have hn1 : n ≤ 4000001 := by omega
    clear hbw hle hnn
    by_cases hlt : i < xs.length
    · have hne : xs ≠ [] := by intro e; rw [e] at hlt; simp at hlt
      obtain ⟨y, hy⟩ : ∃ y, xs[i]? = some y := ⟨xs[i], List.getElem?_eq_getElem hlt⟩
      obtain ⟨b, off, eo, -, hbl, hcs⟩ := (Q.out.later HBW.out (reads_later HBW.out h).2.1) hne
      subst eo
      obtain ⟨cs, hlen, hkey, hrd⟩ := hcs i y hy
      obtain ⟨v0, v1, v2, v3, v4, v5, v6, v7, v8, rfl⟩ := nine hlen
      have hup := sumZ_up (cnt h).de xs i y hy
      have hle2 := sumZ_le (cnt h).de xs (i + 1)
      rw [HSA.out] at hle2
      cases h with
      | zero => exact hrd.elim
      | succ h =>
        obtain ⟨-, -, -, z, p1, d1, ce, p2, d2, hz, he, -, -, f2, -, hce, re, rd⟩ := hrd
        obtain ⟨a0, a1, a2, a3, a4, a5, rfl⟩ := six hce
        simp only [List.cons_append, List.nil_append, List.cons.injEq, and_true] at he
        obtain ⟨-, -, rfl, rfl, rfl, rfl, rfl, rfl, rfl⟩ := he
        have g2 := later_at hbl (hkey 2 v2 rfl)
        have g3 := later_at hbl (hkey 3 v3 rfl)
        have g4 := later_at hbl (hkey 4 v4 rfl)
        have g5 := later_at hbl (hkey 5 v5 rfl)
        have g6 := later_at hbl (hkey 6 v6 rfl)
        have g7 := later_at hbl (hkey 7 v7 rfl)
        have g8 := later_at hbl (hkey 8 _ rfl)
        have hcd : (cnt (h + 1)).de y = (cnt h).ex z + sumZ (cnt h).de y.ds := by
          show sumZ (cnt h).ex y.l + sumZ (cnt h).de y.ds = _
          rw [hz]
          simp [sumZ]
        have hcz : (cnt h).ex z ≤ 4000000 := by omega
        have hcw : sumZ (cnt h).de y.ds ≤ 4000000 := by omega
        have C1 : Hid (∀ q : Later wr, Calls Try.prog 12 #[.agg #[v2, v3, v4, v5, v6, v7]] q.w fun e w' => e = .returned (.int .i64 ((cnt h).ex z : Nat)) ∧ Below q.w.heap.size q.w w') := fun q => I1.out h rfl z [v2, v3, v4, v5, v6, v7] q.w ((reads_later q.h h).1 _ _ re) hcz
        have C2 : Hid (∀ q : Later wr, Calls Try.prog 35 #[.slice p2 y.ds.length d2] q.w fun e w' => e = .returned (.int .i64 (sumZ (cnt h).de y.ds : Nat)) ∧ Below q.w.heap.size q.w w') := fun q => I2.out h rfl y.ds p2 d2 q.w (rd.later q.h (reads_later q.h h).2.1) f2.1 hcw
        obtain ⟨A, hA⟩ : ∃ A : Int, A = (((cnt h).ex z : Nat) : Int) := ⟨_, rfl⟩
        obtain ⟨G, hG⟩ : ∃ G : Int, G = ((sumZ (cnt h).de y.ds : Nat) : Int) := ⟨_, rfl⟩
        rw [← hA] at C1
        rw [← hG] at C2
        have hA0 : 0 ≤ A ∧ A ≤ 4000000 := by omega
        have hG0 : 0 ≤ G ∧ G ≤ 4000000 := by omega
        have HUP : Hid (n + A + G = ((sumZ (cnt (h + 1)).de (xs.take (i + 1)) : Nat) : Int)) := by
          have e1 := HNN.out
          show n + A + G = ((sumZ (cnt (h + 1)).de (xs.take (i + 1)) : Nat) : Int)
          rw [hup, hcd, e1, hA, hG]
          simp only [Int.natCast_add]
          omega
        have hlt2 : (i : Int) < xs.length := by omega
        clear hcs hy hne hkey hlen hup hle2 hcd hcz hcw hA hG re rd f2 hce hz
        have hne0 : Nonempty (Later wr) := later_nonempty wr
        go_wp2_with fail
        refine wp_region_class (S := fun v => Below wr.heap.size wr v) (by kernel_rfl) (by kernel_rfl) (below_drew _) ?_
        repeat (first | go_big_quiet_skip | (go_big_quiet_want; go_big_quiet_op; first | go_big_quiet_on | (apply Exists.intro; refine ⟨fun q => ?_, ?_⟩; (first | (go_at_call 12; refine (C1.out q).mono ?_; rintro e w9 ⟨rfl, hb9⟩; exact ⟨rfl, Later.on q hb9, rfl⟩) | (go_at_call 35; refine (C2.out q).mono ?_; rintro e w9 ⟨rfl, hb9⟩; exact ⟨rfl, Later.on q hb9, rfl⟩)); go_big_quiet_on)))
        refine wpQuiet_nil ?_
        intro _ hw'
        obtain ⟨q, rfl⟩ := hw'
        go_wp2
        exact ⟨⟨i + 1, n + A + G, by omega, by go_num, by first | rfl | go_num, HUP.out, HBW.out.trans (q.h.mono HBW.out.size)⟩, by simp [intOf]; omega⟩
    · have hie : i = xs.length := by omega
      have HN2 : Hid (n = (SA : Int)) := by
        have e1 := HNN.out
        rw [hie, List.take_length, HSA.out] at e1
        exact e1
      have he : ¬ ((i : Int) < xs.length) := by omega
      clear HNN
      go_wp2
      go_ret
      refine ⟨?_, HBW.out⟩
      rw [HN2.out]
      rfl
theorem z_all (h : Nat) : ZEx h ∧ ZDs h ∧ ZAl h := by
  induction h with
  | zero => exact ⟨fun _ _ _ hr => hr.elim, zDs_any (fun k hk => by omega) (fun k hk => by omega), fun _ _ _ _ _ _ _ _ _ _ hr => hr.elim⟩
  | succ h ih =>
    obtain ⟨i1, i2, i3⟩ := ih
    refine ⟨zEx_step i1 i2 i3, zDs_any (fun k hk => ?_) (fun k hk => ?_), zAl_step i1⟩
    · obtain rfl : h = k := by omega
      exact i1
    · obtain rfl : h = k := by omega
      exact i2
end Go.Proofs.Ytegcebeaelpjhaj

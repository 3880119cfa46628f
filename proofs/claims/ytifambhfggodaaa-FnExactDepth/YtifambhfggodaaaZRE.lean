/- The model's Depth and Ended. -/
import Derived.Test.YtifambhfggodaaaZRD
namespace Go.Proofs.Ytifambhfggodaaa.Rs
open Go.ChangeShapes Go.WideShapes Go.ChangeAt Go.RowKit

theorem bx4 {w : World} {g : Nat} {E : TypeId} {c0 c1 c2 c3 : Value} (h : w.heap[g]? = some (.cells #[c0, c1, c2, c3] E (0, 0))) : w.cell? ⟨g, 0, none⟩ = some c0 ∧ w.cell? ⟨g, 1, none⟩ = some c1 ∧ w.cell? ⟨g, 2, none⟩ = some c2 ∧ w.cell? ⟨g, 3, none⟩ = some c3 := ⟨cell_of h 0, cell_of h 1, cell_of h 2, cell_of h 3⟩
theorem tyR_in {K : Nat → Prop} (w : World) : ∀ h x cs, tyR K w h x cs → tyR (fun b => K b ∧ b < w.heap.size) w h x cs := by
  intro h
  induction h with
  | zero => exact fun _ _ h => h
  | succ h ih =>
    rintro x cs ⟨e1, e2, e3, o, c, e, hs, hf, hr⟩
    refine ⟨e1, e2, e3, o, c, e, hs, hf, fun hne => ?_⟩
    obtain ⟨b, off, eo, hk, hl, hc⟩ := hr hne
    exact ⟨b, off, eo, ⟨hk, hl⟩, hl, fun i y hy => by obtain ⟨cs, k1, k2, k3⟩ := hc i y hy; exact ⟨cs, k1, k2, ih _ _ k3⟩⟩
def mx (l : List Nat) : Nat := l.foldl max 0
theorem mx_snoc (l : List Nat) (x : Nat) : mx (l ++ [x]) = max (mx l) x := by unfold mx; rw [List.foldl_append]; rfl
theorem fold_le {B : Nat} : ∀ (l : List Nat) (a : Nat), a ≤ B → (∀ x ∈ l, x ≤ B) → l.foldl max a ≤ B
  | [], a, h, _ => h
  | x :: l, a, h, k => fold_le l (max a x) (Nat.max_le.2 ⟨h, k x (by simp)⟩) fun y hy => k y (by simp [hy])
/-- How deep a result is. -/
def dep : Nat → Tr → Nat
  | 0, _ => 0
  | h + 1, t => mx (t.l.map (dep h)) + 1
theorem dep_le : ∀ h t, dep h t ≤ 1 + wty h t := by
  intro h
  induction h with
  | zero => intro t; exact Nat.zero_le _
  | succ h ih =>
    intro t
    show mx (t.l.map (dep h)) + 1 ≤ 1 + (t.s.size + lw (wty h) t.l)
    have : mx (t.l.map (dep h)) ≤ lw (wty h) t.l := fold_le _ 0 (Nat.zero_le _) fun x hx => by
      obtain ⟨y, hy, rfl⟩ := List.mem_map.1 hx
      have h1 := ih y
      have h2 := le_sum (wty h) t.l y hy
      have h3 : 1 ≤ t.l.length := List.length_pos_of_mem hy
      unfold lw
      omega
    omega
def DpT (h : Nat) : Prop := ∀ (K : Nat → Prop) (x : Tr) (cs : List Value) (w : World), tyR K w h x cs → wty h x ≤ 1048576 → Calls Try.prog 5 #[.agg cs.toArray] w fun e w' => e = .returned (.int .i64 (dep h x)) ∧ Below w.heap.size w w'
set_option maxHeartbeats 2000000 in
set_option maxRecDepth 100000 in
theorem depth_step {h : Nat} (i1 : DpT h) : DpT (h + 1) := by
  intro K x cs w hr hw
  obtain ⟨-, -, -, o1, c1, rfl, hs, hf, q1⟩ := hr
  have hwx : wty (h + 1) x = x.s.size + lw (wty h) x.l := rfl
  have hll : x.l.length ≤ 1048576 := by unfold lw at hwx; omega
  have HL : Hid (lw (wty h) x.l ≤ 1048576) := by show lw (wty h) x.l ≤ 1048576; omega
  have I1 := hide i1
  have Q1 := hide q1
  have HB0 : Hid (Below w.heap.size w (w.alloc (.cells #[.int .i64 x.k, .string x.s, .int .i64 x.n, .slice o1 x.l.length c1] 29))) := (Below.refl _ w).alloc (Nat.le_refl _) _
  have HX0 : Hid ((w.alloc (.cells #[.int .i64 x.k, .string x.s, .int .i64 x.n, .slice o1 x.l.length c1] 29)).heap[w.heap.size]? = some (.cells #[.int .i64 x.k, .string x.s, .int .i64 x.n, .slice o1 x.l.length c1] 29 (0, 0))) := heap_alloc_new w _
  clear i1 q1 hs hf hw hwx
  go_enter Try.func5, Try.ntmps5
  go_wp2
  generalize w.alloc (.cells #[.int .i64 x.k, .string x.s, .int .i64 x.n, .slice o1 x.l.length c1] 29) = w1 at HB0 HX0 ⊢
  go_loopw [3, 4] (fun t3 t4 wr => ∃ (i n : Nat), i ≤ x.l.length ∧ n ≤ 1048577 ∧ t4 = .int .i64 i ∧ t3 = .int .i64 n ∧ n = mx ((x.l.take i).map (dep h)) ∧ Below w1.heap.size w1 wr) (fun _ t4 _ => x.l.length - (intOf t4).toNat)
  case atStart => exact ⟨0, 0, Nat.zero_le _, Nat.zero_le _, rfl, rfl, rfl, Below.refl _ _⟩
  case round =>
    obtain ⟨i, n, hi, hn, rfl, rfl, hnm, hbw⟩ := hrel
    have HNM := hide hnm
    have HBW := hide hbw
    have HXR := hide ((hbw.block w.heap.size (heap_lt HX0.out)).trans HX0.out)
    clear hnm hbw
    obtain ⟨x0, x1, x2, x3⟩ := bx4 HXR.out
    by_cases hlt : i < x.l.length
    · have hne : x.l ≠ [] := by intro e; rw [e] at hlt; simp at hlt
      obtain ⟨y, hy⟩ : ∃ y, x.l[i]? = some y := ⟨x.l[i], List.getElem?_eq_getElem hlt⟩
      have hb2 := HB0.out.trans (HBW.out.mono HB0.out.size)
      obtain ⟨b, off, eo, -, hbl, hcs⟩ := (Q1.out.later hb2 (tyR_later hb2 h)) hne
      subst eo
      obtain ⟨cs, hlen, hkey, hrd⟩ := hcs i y hy
      obtain ⟨v0, v1, v2, v3, rfl⟩ := four_of hlen
      have q0 := hkey 0 v0 rfl
      have q1 := hkey 1 v1 rfl
      have q2 := hkey 2 v2 rfl
      have q3 := hkey 3 v3 rfl
      rw [Nat.add_zero] at q0
      have hwy : wty h y ≤ 1048576 := by
        have h1 := HL.out
        have h2 := le_sum (wty h) x.l y (List.mem_of_getElem? hy)
        unfold lw at h1
        omega
      have hdy := dep_le h y
      have HRD := hide hrd
      have HWY := hide hwy
      have HEQ : Hid (mx ((x.l.take (i + 1)).map (dep h)) = max n (dep h y)) := by
        rw [List.take_add_one, hy, List.map_append, HNM.out]
        exact mx_snoc _ _
      have hlt2 : (i : Int) < x.l.length := by omega
      have hdb : dep h y ≤ 1048577 := by omega
      clear hcs hy hne hkey hlen hrd hb2 hwy hdy
      obtain ⟨d, hd⟩ : ∃ d, dep h y = d := ⟨_, rfl⟩
      have HC := hide (I1.out K y _ wr HRD.out HWY.out)
      rw [hd] at HEQ hdb HC
      clear hd
      by_cases hgt : (n : Int) < d
      all_goals
        go_wp2_with fail
        refine Calls.mono HC.out ?_
        rintro e w2 ⟨rfl, hb⟩
        have HB2 := hide (HBW.out.trans (hb.mono HBW.out.size))
        clear hb
        go_wp2
      · exact ⟨⟨i + 1, d, by omega, hdb, by go_num, rfl, by rw [HEQ.out]; omega, HB2.out⟩, by simp [intOf]; omega⟩
      · exact ⟨⟨i + 1, n, by omega, hn, by go_num, rfl, by rw [HEQ.out]; omega, HB2.out⟩, by simp [intOf]; omega⟩
    · have hlt2 : ¬ ((i : Int) < x.l.length) := by omega
      go_wp2
      go_ret
      have e := HNM.out
      rw [List.take_of_length_le (by omega)] at e
      refine ⟨?_, HB0.out.trans (HBW.out.mono HB0.out.size)⟩
      show Ending.returned (.int .i64 ((n : Int) + 1)) = _
      rw [e]
      rfl
theorem depth_all : ∀ h, DpT h := by
  intro h
  induction h with
  | zero => exact fun K x cs w hr => hr.elim
  | succ h ih => exact depth_step ih
end Go.Proofs.Ytifambhfggodaaa.Rs

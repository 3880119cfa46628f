/- What the law of an exact answer of names needs: marks of an expression, marks that are held, sizes. -/
import Derived.Test.YtihjpkldefllgakGreatBV
import Derived.Test.YtihjpkldefllgakGreatBL
namespace Go.Proofs.YtihjpkldefllgakGreat.Nm
open Go.ChangeShapes Go.WideShapes Go.ChangeAt Go.RowKit

set_option maxHeartbeats 1000000 in
set_option maxRecDepth 100000 in
theorem heldStrS_any (n : Nat) (o : Option Addr) (c : Nat) (w : World) (hd : 0 < n → ∃ b off, o = some ⟨b, off, none⟩ ∧ ∀ j, j < n → w.cell? ⟨b, off + j, none⟩ = some (.string (markS (0 + j)))) (hn : n ≤ 4800000) (hc : n ≤ c) :
    Calls Tryz.prog 12 #[.slice o n c, .int .i64 1] w fun e w' => e = .returned (.int .i64 ((n : Int) + 1)) ∧ Below w.heap.size w w' := by
  have HD := hide hd
  clear hd
  go_enter Tryz.func12, Tryz.ntmps12
  go_wp2
  go_loopw [1, 5] (fun t1 t5 wr => ∃ i : Nat, i ≤ n ∧ t5 = .int .i64 i ∧ t1 = .int .i64 ((i : Int) + 1) ∧ Below w.heap.size w wr) (fun _ t5 _ => n - (intOf t5).toNat)
  case atStart => exact ⟨0, Nat.zero_le _, rfl, rfl, Below.refl _ _⟩
  case round =>
    obtain ⟨i, hi, rfl, rfl, hb⟩ := hrel
    have HB := hide hb
    by_cases hlt : i < n
    · obtain ⟨b, off, eo, hm⟩ := HD.out (by omega)
      subst eo
      have q0 := hm i hlt
      rw [Nat.zero_add] at q0
      have hbl := World.block_lt_of_cell? w _ q0
      have q1 := (hb.cell (p := ⟨b, off + i, none⟩) hbl).trans q0
      have hib : i ≤ 4800000 := by omega
      have HQ := hide q1
      have hbl2 : b < wr.heap.size := World.block_lt_of_cell? wr _ q1
      have HMT := hide (mt0 i (by omega) wr.drew)
      have hnn : ((markS i).toList != (markS i).toList) = false := by simp
      clear hb hm q0 hbl
      go_upto_region 4 with fail
      go_region_with (go_at_call 29; (with_reducible refine Calls.mono HMT.out ?_); rintro e w2 ⟨rfl, hb2⟩; have HB2 : Hid (Below wr.heap.size wr w2) := (Below.refl _ wr).drew.trans hb2; have q2 := (HB2.out.cell (p := ⟨b, off + i, none⟩) hbl2).trans HQ.out; clear hb2)
      all_goals
        go_wp2
        go_roundw
        case rel => exact ⟨i + 1, by omega, by go_num, by go_num, HB.out.trans (HB2.out.mono HB.out.size)⟩
        case measure => simp [intOf]; omega
    · have hie : i = n := by omega
      subst hie
      clear hb
      go_wp2
      go_ret
      exact ⟨rfl, HB.out⟩
theorem reads_in {K : Nat → Prop} (w : World) : ∀ h, (∀ e cs, (reads K w h).ex e cs → (reads (fun b => K b ∧ b < w.heap.size) w h).ex e cs) ∧ (∀ d cs, (reads K w h).de d cs → (reads (fun b => K b ∧ b < w.heap.size) w h).de d cs) ∧ (∀ a cs, (reads K w h).al a cs → (reads (fun b => K b ∧ b < w.heap.size) w h).al a cs) := by
  have row : ∀ {α : Type} {R R' : α → List Value → Prop} {sz : Nat} {o : Option Addr} {xs : List α}, RowOf K w R sz o xs → (∀ x cs, R x cs → R' x cs) → RowOf (fun b => K b ∧ b < w.heap.size) w R' sz o xs := fun hr hR hne => by
    obtain ⟨b, off, e, hk, hl, hc⟩ := hr hne
    exact ⟨b, off, e, ⟨hk, hl⟩, hl, fun i x hx => by obtain ⟨cs, h1, h2, h3⟩ := hc i x hx; exact ⟨cs, h1, h2, hR x cs h3⟩⟩
  intro h
  induction h with
  | zero => exact ⟨fun _ _ h => h, fun _ _ h => h, fun _ _ h => h⟩
  | succ h ih =>
    obtain ⟨ih1, ih2, ih3⟩ := ih
    refine ⟨fun e cs he => ?_, fun d cs hd => ?_, fun a cs ha => ?_⟩
    · obtain ⟨e0, o1, c1, o2, c2, o3, c3, e1, e2, e3, e4, e5, r1, r2, r3⟩ := he
      exact ⟨e0, o1, c1, o2, c2, o3, c3, e1, e2, e3, e4, e5, row r1 ih1, row r2 ih2, row r3 ih3⟩
    · obtain ⟨d0, d1, d2, e, o1, c1, ce, o2, c2, e0, e1, e2, e3, e4, r1, e5, r2, r3⟩ := hd
      exact ⟨d0, d1, d2, e, o1, c1, ce, o2, c2, e0, e1, e2, e3, e4, row r1 (fun _ _ h => h), e5, ih1 _ _ r2, row r3 ih2⟩
    · obtain ⟨a0, a1, a2, a3, e, o1, c1, ce, e0, e1, e2, e3, r1, e4, r2⟩ := ha
      exact ⟨a0, a1, a2, a3, e, o1, c1, ce, e0, e1, e2, e3, row r1 (fun _ _ h => h), e4, ih1 _ _ r2⟩
theorem sum_lin (f g : Tr → Nat) (c k : Nat) : ∀ (l : List Tr), (∀ x ∈ l, f x ≤ c + k * g x) → c ≤ k → (l.map f).sum ≤ k * lw g l := by
  intro l
  induction l with
  | nil => intro _ _; simp
  | cons a r ih =>
    intro hx hc
    have h1 := hx a (by simp)
    have h2 := ih (fun x hm => hx x (by simp [hm])) hc
    unfold lw at *
    simp only [List.map_cons, List.sum_cons, List.length_cons]
    have e : k * (r.length + 1 + (g a + (r.map g).sum)) = k * (r.length + (r.map g).sum) + k + k * g a := by
      rw [Nat.mul_add, Nat.mul_add, Nat.mul_add, Nat.mul_add, Nat.mul_one]
      omega
    omega
theorem row_all {K : Nat → Prop} {w : World} {R : Tr → List Value → Prop} {sz : Nat} {o : Option Addr} {xs : List Tr} (h : RowOf K w R sz o xs) : ∀ x ∈ xs, ∃ cs, R x cs := by
  intro x hx
  obtain ⟨i, hi⟩ := List.mem_iff_getElem?.1 hx
  obtain ⟨b, off, -, -, -, hc⟩ := h (fun e => by rw [e] at hx; cases hx)
  obtain ⟨cs, -, -, hr⟩ := hc i x hi
  exact ⟨cs, hr⟩
theorem sizes {K : Nat → Prop} {w : World} : ∀ h, (∀ e cs, (reads K w h).ex e cs → (nmb h).ex e ≤ 1 + 2 * (wts h).ex e ∧ (wgt h).ex e ≤ 1 + 4 * (wts h).ex e) ∧ (∀ d cs, (reads K w h).de d cs → (nmb h).de d ≤ 2 + 2 * (wts h).de d ∧ (wgt h).de d ≤ 3 + 4 * (wts h).de d) ∧ (∀ a cs, (reads K w h).al a cs → (nmb h).al a ≤ 1 + 2 * (wts h).al a ∧ (wgt h).al a ≤ 2 + 4 * (wts h).al a) := by
  intro h
  induction h with
  | zero => exact ⟨fun _ _ h => h.elim, fun _ _ h => h.elim, fun _ _ h => h.elim⟩
  | succ h ih =>
    obtain ⟨i1, i2, i3⟩ := ih
    refine ⟨fun e cs he => ?_, fun d cs hd => ?_, fun a cs ha => ?_⟩
    · obtain ⟨e0, o1, c1, o2, c2, o3, c3, e1, e2, e3, e4, e5, r1, r2, r3⟩ := he
      have hw : (wts (h + 1)).ex e = e.s.size + lw (wts h).ex e.l + lw (wts h).de e.ds + lw (wts h).al e.al := rfl
      have n1 := sum_lin (nmb h).ex (wts h).ex 1 2 e.l (fun x hx => by obtain ⟨cs, hr⟩ := row_all r1 x hx; exact (i1 x cs hr).1) (by omega)
      have n2 := sum_lin (nmb h).de (wts h).de 2 2 e.ds (fun x hx => by obtain ⟨cs, hr⟩ := row_all r2 x hx; exact (i2 x cs hr).1) (by omega)
      have n3 := sum_lin (nmb h).al (wts h).al 1 2 e.al (fun x hx => by obtain ⟨cs, hr⟩ := row_all r3 x hx; exact (i3 x cs hr).1) (by omega)
      have g1 := sum_lin (fun c => 1 + (wgt h).ex c) (wts h).ex 2 4 e.l (fun x hx => by obtain ⟨cs, hr⟩ := row_all r1 x hx; have := (i1 x cs hr).2; omega) (by omega)
      have g2 := sum_lin (fun c => 1 + (wgt h).de c) (wts h).de 4 4 e.ds (fun x hx => by obtain ⟨cs, hr⟩ := row_all r2 x hx; have := (i2 x cs hr).2; omega) (by omega)
      have g3 := sum_lin (wgt h).al (wts h).al 2 4 e.al (fun x hx => by obtain ⟨cs, hr⟩ := row_all r3 x hx; exact (i3 x cs hr).2) (by omega)
      refine ⟨?_, ?_⟩
      · show 1 + (e.l.map (nmb h).ex).sum + (e.al.map (nmb h).al).sum + (e.ds.map (nmb h).de).sum ≤ _
        omega
      · show 1 + (e.l.map fun c => 1 + (wgt h).ex c).sum + (e.ds.map fun c => 1 + (wgt h).de c).sum + (e.al.map (wgt h).al).sum ≤ _
        omega
    · obtain ⟨d0, d1, d2, e, o1, c1, ce, o2, c2, e0, e1, e2, e3, e4, r1, e5, r2, r3⟩ := hd
      have hw : (wts (h + 1)).de d = d.s.size + sw d.ss + (d.l.map (wts h).ex).sum + lw (wts h).de d.ds := rfl
      have hsw : d.ss.length ≤ sw d.ss := by unfold sw; omega
      have n2 := sum_lin (nmb h).de (wts h).de 2 2 d.ds (fun x hx => by obtain ⟨cs, hr⟩ := row_all r3 x hx; exact (i2 x cs hr).1) (by omega)
      have g2 := sum_lin (fun c => 1 + (wgt h).de c) (wts h).de 4 4 d.ds (fun x hx => by obtain ⟨cs, hr⟩ := row_all r3 x hx; have := (i2 x cs hr).2; omega) (by omega)
      obtain ⟨m1, m2⟩ := i1 e _ r2
      rw [e0] at hw
      simp only [List.map_cons, List.map_nil, List.sum_cons, List.sum_nil] at hw
      refine ⟨?_, ?_⟩
      · show 1 + d.ss.length + (d.l.map (nmb h).ex).sum + (d.ds.map (nmb h).de).sum ≤ _
        rw [e0]
        simp only [List.map_cons, List.map_nil, List.sum_cons, List.sum_nil]
        omega
      · show 1 + d.ss.length + (d.l.map fun c => 1 + (wgt h).ex c).sum + (d.ds.map fun c => 1 + (wgt h).de c).sum ≤ _
        rw [e0]
        simp only [List.map_cons, List.map_nil, List.sum_cons, List.sum_nil]
        omega
    · obtain ⟨a0, a1, a2, a3, e, o1, c1, ce, e0, e1, e2, e3, r1, e4, r2⟩ := ha
      have hw : (wts (h + 1)).al a = a.s.size + sw a.ss + (a.l.map (wts h).ex).sum := rfl
      have hsw : a.ss.length ≤ sw a.ss := by unfold sw; omega
      obtain ⟨m1, m2⟩ := i1 e _ r2
      rw [e0] at hw
      simp only [List.map_cons, List.map_nil, List.sum_cons, List.sum_nil] at hw
      refine ⟨?_, ?_⟩
      · show a.ss.length + (a.l.map (nmb h).ex).sum ≤ _
        rw [e0]
        simp only [List.map_cons, List.map_nil, List.sum_cons, List.sum_nil]
        omega
      · show a.ss.length + (a.l.map fun c => 1 + (wgt h).ex c).sum ≤ _
        rw [e0]
        simp only [List.map_cons, List.map_nil, List.sum_cons, List.sum_nil]
        omega
end Go.Proofs.YtihjpkldefllgakGreat.Nm

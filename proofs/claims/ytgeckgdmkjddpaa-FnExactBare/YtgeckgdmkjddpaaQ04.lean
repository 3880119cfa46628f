/- Made of BV, BWa. -/
import Derived.Test.YtgeckgdmkjddpaaQ03
import Derived.Test.YtgeckgdmkjddpaaQ01
namespace Go.Proofs.Ytgeckgdmkjddpaa.Nm
open Go.ChangeShapes Go.WideShapes Go.ChangeAt Go.RowKit

def MkP (K : Nat → Prop) (kk N : Nat) (w : World) (e : Ending) (w' : World) : Prop := ∃ r : Nat, e = .returned (.int .i64 ((r : Int) + 1)) ∧ kk ≤ r ∧ r ≤ kk + N ∧ Mk K w w'
def MkE (K : Nat → Prop) (h : Nat) : Prop := ∀ (xs : List Tr) (o : Option Addr) (c kk : Nat) (w : World), RowOf K w (shp K w h).ex 6 o xs → (∀ b, K b → PlainAt w ⟨b, 0, none⟩) → xs.length ≤ maxLen → kk + 4 * lw (wts h).ex xs ≤ 4900000 → Calls Try.prog 34 #[.slice o xs.length c, .int .i64 ((kk : Int) + 1)] w (MkP K kk (4 * lw (wts h).ex xs) w)
def MkD (K : Nat → Prop) (h : Nat) : Prop := ∀ (xs : List Tr) (o : Option Addr) (c kk : Nat) (w : World), RowOf K w (shp K w h).de 9 o xs → (∀ b, K b → PlainAt w ⟨b, 0, none⟩) → xs.length ≤ maxLen → kk + 4 * lw (wts h).de xs ≤ 4900000 → Calls Try.prog 35 #[.slice o xs.length c, .int .i64 ((kk : Int) + 1)] w (MkP K kk (4 * lw (wts h).de xs) w)
def MkA (K : Nat → Prop) (h : Nat) : Prop := ∀ (xs : List Tr) (o : Option Addr) (c kk : Nat) (w : World), RowOf K w (shp K w h).al 8 o xs → (∀ b, K b → PlainAt w ⟨b, 0, none⟩) → xs.length ≤ maxLen → kk + 4 * lw (wts h).al xs ≤ 4900000 → Calls Try.prog 36 #[.slice o xs.length c, .int .i64 ((kk : Int) + 1)] w (MkP K kk (4 * lw (wts h).al xs) w)
theorem mt0 (k : Nat) (h : k ≤ 8900000) (w : World) : Calls Try.prog 65 #[.int .i64 ((k : Int) + 1)] w fun e w' => e = .returned (.string (markS k)) ∧ Below w.heap.size w w' := markText_s k (by omega) w
theorem mt1 (k : Nat) (h : k ≤ 8900000) (w : World) : Calls Try.prog 65 #[.int .i64 ((k : Int) + 1 + 1)] w fun e w' => e = .returned (.string (markS (k + 1))) ∧ Below w.heap.size w w' := by
  have h9 := markText_s (k + 1) (by omega) w
  rw [Int.natCast_add] at h9
  exact h9
theorem lw_take (f : Tr → Nat) (xs : List Tr) (i : Nat) (hi : i < xs.length) : i + 1 + ((xs.take (i + 1)).map f).sum = (i + ((xs.take i).map f).sum) + 1 + f xs[i] ∧ i + 1 + ((xs.take (i + 1)).map f).sum ≤ lw f xs := by
  have e1 : ((xs.take (i + 1)).map f).sum = ((xs.take i).map f).sum + f xs[i] := by
    rw [List.take_succ_eq_append_getElem hi, List.map_append, List.sum_append]
    simp
  have e2 : ∀ (l : List Tr) (j : Nat), ((l.take j).map f).sum ≤ (l.map f).sum := by
    intro l
    induction l with
    | nil => intro j; simp
    | cons x r ih =>
      intro j
      cases j with
      | zero => simp
      | succ j =>
        have := ih j
        simp only [List.take_succ_cons, List.map_cons, List.sum_cons]
        omega
  have e3 := e2 xs (i + 1)
  unfold lw
  omega
theorem int_sk (i j : Int) : Sk (.int .i64 i) (.int .i64 j) := .inr (.inl ⟨i, j, rfl, rfl⟩)
theorem str_sk (s t : ByteArray) : Sk (.string s) (.string t) := .inr (.inr ⟨s, t, rfl, rfl⟩)

set_option maxHeartbeats 4000000 in
set_option maxRecDepth 100000 in
theorem mkE_of {K : Nat → Prop} {H : Nat} (ih : ∀ h, h < H → MkE K h ∧ MkD K h ∧ MkA K h) : MkE K H := by
  intro xs o c kk w hx hp hl hb
  have HX := hide hx
  have HP := hide hp
  have IH := hide ih
  have ml : xs.length ≤ 9223372036854775807 := hl
  clear hx hp hl ih
  go_enter Try.func34, Try.ntmps34
  go_wp2
  go_loopw [1, 5] (fun t1 t5 wr => ∃ i r : Nat, i ≤ xs.length ∧ t5 = .int .i64 i ∧ t1 = .int .i64 ((r : Int) + 1) ∧ kk ≤ r ∧ r ≤ kk + 4 * (i + ((xs.take i).map (wts H).ex).sum) ∧ Mk K w wr) (fun _ t5 _ => xs.length - (intOf t5).toNat)
  case atStart => exact ⟨0, kk, Nat.zero_le _, rfl, rfl, Nat.le_refl _, by omega, Mk.refl _ _⟩
  case round =>
    obtain ⟨i, r, hi, rfl, rfl, hkr, hrk, hm⟩ := hrel
    have HM := hide hm
    by_cases hlt : i < xs.length
    · have hne : xs ≠ [] := by intro e; rw [e] at hlt; simp at hlt
      obtain ⟨hlw1, hlw2⟩ := lw_take (wts H).ex xs i hlt
      obtain ⟨b, off, eo, hkb, hbl, hcs⟩ := row_kin HX.out hm (shp_kin hm H).1 hne
      subst eo
      obtain ⟨ccs, hccl, hkey, hsh⟩ := hcs i _ (List.getElem?_eq_getElem hlt)
      obtain ⟨x, hx⟩ : ∃ x, xs[i] = x := ⟨_, rfl⟩
      rw [hx] at hlw1 hsh
      have HPL : Hid (∀ b, K b → PlainAt wr ⟨b, 0, none⟩) := fun b hb => hm.plain b hb (HP.out b hb)
      obtain ⟨bc, bt, hpc⟩ := HPL.out b hkb
      have HPC := hide hpc
      have HKB := hide hkb
      cases H with
      | zero => exact hsh.elim
      | succ H =>
        obtain ⟨xk, xst, xn, o1, c1, o2, c2, o3, c3, rfl, ⟨l1, l2, l3⟩, r1, r2, r3⟩ := hsh
        have hwx : (wts (H + 1)).ex x = x.s.size + lw (wts H).ex x.l + lw (wts H).de x.ds + lw (wts H).al x.al := rfl
        obtain ⟨ihE, ihD, ihA⟩ := IH.out H (by omega)
        have q0 : wr.cell? ⟨b, off + i * 6, none⟩ = some (.int .i64 xk) := hkey 0 _ rfl
        have q1 : wr.cell? ⟨b, off + i * 6 + 1, none⟩ = some (.string xst) := hkey 1 _ rfl
        have q2 : wr.cell? ⟨b, off + i * 6 + 2, none⟩ = some (.int .i64 xn) := hkey 2 _ rfl
        have q3 : wr.cell? ⟨b, off + i * 6 + 3, none⟩ = some (.slice o1 x.l.length c1) := hkey 3 _ rfl
        have q4 : wr.cell? ⟨b, off + i * 6 + 4, none⟩ = some (.slice o2 x.ds.length c2) := hkey 4 _ rfl
        have q5 : wr.cell? ⟨b, off + i * 6 + 5, none⟩ = some (.slice o3 x.al.length c3) := hkey 5 _ rfl
        have HROW3 := hide r1
        have HROW4 := hide r2
        have HROW5 := hide r3
        have HihE := hide ihE
        have HihD := hide ihD
        have HihA := hide ihA
        clear hm hcs hkey hne hpc hkb hccl r1 r2 r3 ihE ihD ihA
        obtain ⟨v1, y1, sk1⟩ := Mk.kin (Mk.refl K wr) ⟨b, off + i * 6, none⟩ _ HKB.out q0
        obtain ⟨z1, rfl⟩ := sk1.int
        obtain ⟨bc2, bt2, hpc2⟩ := Mk.plain (Mk.refl K wr) b HKB.out ⟨bc, bt, HPC.out⟩
        have f2 := frozen_of hpc2 (off + i * 6)
        have HMK3 : Hid (Mk K wr ((wr).setCell ⟨b, off + i * 6, none⟩ (.int .i64 ((r : Int) + 1)))) := Mk.trans (Mk.refl K wr) (Mk.set HKB.out y1 (int_sk _ _))
        clear hpc2
        have hrb4 : r ≤ 8900000 := by omega
        go_wp2_with fail
        refine Calls.mono (mt1 r hrb4 _) ?_
        rintro ee w4 ⟨rfl, hb4⟩
        clear y1 f2
        have HMK4 : Hid (Mk K wr w4) := Mk.trans HMK3.out (Mk.later hb4)
        clear hb4
        obtain ⟨v5, y5, sk5⟩ := Mk.kin HMK4.out ⟨b, off + i * 6 + 1, none⟩ _ HKB.out q1
        obtain ⟨z5, rfl⟩ := sk5.str
        obtain ⟨bc6, bt6, hpc6⟩ := Mk.plain HMK4.out b HKB.out ⟨bc, bt, HPC.out⟩
        have f6 := frozen_of hpc6 (off + i * 6 + 1)
        have HMK7 : Hid (Mk K wr ((w4).setCell ⟨b, off + i * 6 + 1, none⟩ (.string (markS (r + 1))))) := Mk.trans HMK4.out (Mk.set HKB.out y5 (str_sk _ _))
        clear hpc6
        obtain ⟨v8, y8, sk8⟩ := Mk.kin HMK7.out ⟨b, off + i * 6 + 2, none⟩ _ HKB.out q2
        obtain ⟨z8, rfl⟩ := sk8.int
        obtain ⟨bc9, bt9, hpc9⟩ := Mk.plain HMK7.out b HKB.out ⟨bc, bt, HPC.out⟩
        have f9 := frozen_of hpc9 (off + i * 6 + 2)
        have HMK10 : Hid (Mk K wr ((((w4).setCell ⟨b, off + i * 6 + 1, none⟩ (.string (markS (r + 1))))).setCell ⟨b, off + i * 6 + 2, none⟩ (.int .i64 ((r : Int) + 1 + 1 + 1)))) := Mk.trans HMK7.out (Mk.set HKB.out y8 (int_sk _ _))
        clear hpc9
        obtain ⟨v11, y11, sk11⟩ := Mk.kin HMK10.out ⟨b, off + i * 6 + 3, none⟩ _ HKB.out q3
        rw [sk11.slice] at y11
        have HC12 : Hid (Calls Try.prog 34 #[.slice o1 x.l.length c1, .int .i64 ((r : Int) + 1 + 1 + 1 + 1)] (((((w4).setCell ⟨b, off + i * 6 + 1, none⟩ (.string (markS (r + 1))))).setCell ⟨b, off + i * 6 + 2, none⟩ (.int .i64 ((r : Int) + 1 + 1 + 1)))) (MkP K (r + 3) (4 * lw (wts H).ex x.l) (((((w4).setCell ⟨b, off + i * 6 + 1, none⟩ (.string (markS (r + 1))))).setCell ⟨b, off + i * 6 + 2, none⟩ (.int .i64 ((r : Int) + 1 + 1 + 1)))))) := by
          have h9 := HihE.out x.l o1 c1 (r + 3) (((((w4).setCell ⟨b, off + i * 6 + 1, none⟩ (.string (markS (r + 1))))).setCell ⟨b, off + i * 6 + 2, none⟩ (.int .i64 ((r : Int) + 1 + 1 + 1)))) ((row_shp HMK10.out H).1 HROW3.out) (fun b hb => Mk.plain HMK10.out b hb (HPL.out b hb)) l1 (by omega)
          have e9 : (((r + 3) : Nat) : Int) + 1 = ((r : Int) + 1 + 1 + 1 + 1) := by omega
          rw [e9] at h9
          exact h9
        go_wp2_with fail
        refine Calls.mono HC12.out ?_
        rintro ee w12 ⟨r12, rfl, hr12, hs12, hmk⟩
        have HMK12 : Hid (Mk K wr w12) := Mk.trans HMK10.out hmk
        clear hmk y5 f6 y8 f9 y11
        obtain ⟨v13, y13, sk13⟩ := Mk.kin HMK12.out ⟨b, off + i * 6 + 4, none⟩ _ HKB.out q4
        rw [sk13.slice] at y13
        have HC14 : Hid (Calls Try.prog 35 #[.slice o2 x.ds.length c2, .int .i64 ((r12 : Int) + 1)] (w12) (MkP K r12 (4 * lw (wts H).de x.ds) (w12))) := by
          have h9 := HihD.out x.ds o2 c2 r12 (w12) ((row_shp HMK12.out H).2.1 HROW4.out) (fun b hb => Mk.plain HMK12.out b hb (HPL.out b hb)) l2 (by omega)
          have e9 : ((r12 : Nat) : Int) + 1 = ((r12 : Int) + 1) := by omega
          rw [e9] at h9
          exact h9
        go_wp2_with fail
        refine Calls.mono HC14.out ?_
        rintro ee w14 ⟨r14, rfl, hr14, hs14, hmk⟩
        have HMK14 : Hid (Mk K wr w14) := Mk.trans HMK12.out hmk
        clear hmk y13
        obtain ⟨v15, y15, sk15⟩ := Mk.kin HMK14.out ⟨b, off + i * 6 + 5, none⟩ _ HKB.out q5
        rw [sk15.slice] at y15
        have HC16 : Hid (Calls Try.prog 36 #[.slice o3 x.al.length c3, .int .i64 ((r14 : Int) + 1)] (w14) (MkP K r14 (4 * lw (wts H).al x.al) (w14))) := by
          have h9 := HihA.out x.al o3 c3 r14 (w14) ((row_shp HMK14.out H).2.2 HROW5.out) (fun b hb => Mk.plain HMK14.out b hb (HPL.out b hb)) l3 (by omega)
          have e9 : ((r14 : Nat) : Int) + 1 = ((r14 : Int) + 1) := by omega
          rw [e9] at h9
          exact h9
        go_wp2_with fail
        refine Calls.mono HC16.out ?_
        rintro ee w16 ⟨r16, rfl, hr16, hs16, hmk⟩
        have HMK16 : Hid (Mk K wr w16) := Mk.trans HMK14.out hmk
        clear hmk y15
        go_wp2
        go_roundw
        case rel => exact ⟨i + 1, r16, by omega, by go_num, rfl, by omega, by omega, HM.out.trans HMK16.out⟩
        case measure => simp [intOf]; omega
    · have hie : i = xs.length := by omega
      subst hie
      rw [List.take_length] at hrk
      clear hm
      go_wp2
      go_ret
      exact ⟨r, rfl, hkr, by unfold lw; omega, HM.out⟩

set_option maxHeartbeats 4000000 in
set_option maxRecDepth 100000 in
theorem mkD_of {K : Nat → Prop} {H : Nat} (ih : ∀ h, h < H → MkE K h ∧ MkD K h ∧ MkA K h) : MkD K H := by
  intro xs o c kk w hx hp hl hb
  have HX := hide hx
  have HP := hide hp
  have IH := hide ih
  have ml : xs.length ≤ 9223372036854775807 := hl
  clear hx hp hl ih
  go_enter Try.func35, Try.ntmps35
  go_wp2
  go_loopw [1, 5] (fun t1 t5 wr => ∃ i r : Nat, i ≤ xs.length ∧ t5 = .int .i64 i ∧ t1 = .int .i64 ((r : Int) + 1) ∧ kk ≤ r ∧ r ≤ kk + 4 * (i + ((xs.take i).map (wts H).de).sum) ∧ Mk K w wr) (fun _ t5 _ => xs.length - (intOf t5).toNat)
  case atStart => exact ⟨0, kk, Nat.zero_le _, rfl, rfl, Nat.le_refl _, by omega, Mk.refl _ _⟩
  case round =>
    obtain ⟨i, r, hi, rfl, rfl, hkr, hrk, hm⟩ := hrel
    have HM := hide hm
    by_cases hlt : i < xs.length
    · have hne : xs ≠ [] := by intro e; rw [e] at hlt; simp at hlt
      obtain ⟨hlw1, hlw2⟩ := lw_take (wts H).de xs i hlt
      obtain ⟨b, off, eo, hkb, hbl, hcs⟩ := row_kin HX.out hm (shp_kin hm H).2.1 hne
      subst eo
      obtain ⟨ccs, hccl, hkey, hsh⟩ := hcs i _ (List.getElem?_eq_getElem hlt)
      obtain ⟨x, hx⟩ : ∃ x, xs[i] = x := ⟨_, rfl⟩
      rw [hx] at hlw1 hsh
      have HPL : Hid (∀ b, K b → PlainAt wr ⟨b, 0, none⟩) := fun b hb => hm.plain b hb (HP.out b hb)
      obtain ⟨bc, bt, hpc⟩ := HPL.out b hkb
      have HPC := hide hpc
      have HKB := hide hkb
      cases H with
      | zero => exact hsh.elim
      | succ H =>
        obtain ⟨e, xst, p1, g1, ce, p2, g2, e0, rfl, ⟨l1, l2⟩, s1, e5, sE, s2⟩ := hsh
        have hwx : (wts (H + 1)).de x = x.s.size + sw x.ss + (x.l.map (wts H).ex).sum + lw (wts H).de x.ds := rfl
        cases H with
        | zero => exact sE.elim
        | succ H =>
          obtain ⟨xk, xs2, xn, o1, c1, o2, c2, o3, c3, rfl, ⟨m1, m2, m3⟩, r1, r2, r3⟩ := sE
          have hwe : (wts (H + 1)).ex e = e.s.size + lw (wts H).ex e.l + lw (wts H).de e.ds + lw (wts H).al e.al := rfl
          rw [e0] at hwx
          simp only [List.map_cons, List.map_nil, List.sum_cons, List.sum_nil] at hwx
          have hsw : x.ss.length ≤ sw x.ss := by unfold sw; omega
          obtain ⟨ihE, ihD, ihA⟩ := IH.out H (by omega)
          obtain ⟨-, ihD1, -⟩ := IH.out (H + 1) (by omega)
          have q0 : wr.cell? ⟨b, off + i * 9, none⟩ = some (.string xst) := hkey 0 _ rfl
          have q1 : wr.cell? ⟨b, off + i * 9 + 1, none⟩ = some (.slice p1 x.ss.length g1) := hkey 1 _ rfl
          have q2 : wr.cell? ⟨b, off + i * 9 + 2, none⟩ = some (.int .i64 xk) := hkey 2 _ rfl
          have q3 : wr.cell? ⟨b, off + i * 9 + 3, none⟩ = some (.string xs2) := hkey 3 _ rfl
          have q4 : wr.cell? ⟨b, off + i * 9 + 4, none⟩ = some (.int .i64 xn) := hkey 4 _ rfl
          have q5 : wr.cell? ⟨b, off + i * 9 + 5, none⟩ = some (.slice o1 e.l.length c1) := hkey 5 _ rfl
          have q6 : wr.cell? ⟨b, off + i * 9 + 6, none⟩ = some (.slice o2 e.ds.length c2) := hkey 6 _ rfl
          have q7 : wr.cell? ⟨b, off + i * 9 + 7, none⟩ = some (.slice o3 e.al.length c3) := hkey 7 _ rfl
          have q8 : wr.cell? ⟨b, off + i * 9 + 8, none⟩ = some (.slice p2 x.ds.length g2) := hkey 8 _ rfl
          have HROW1 := hide s1
          have HROW5 := hide r1
          have HROW6 := hide r2
          have HROW7 := hide r3
          have HROW8 := hide s2
          have HihE := hide ihE
          have HihD := hide ihD
          have HihA := hide ihA
          have HihD1 := hide ihD1
          clear hm hcs hkey hne hpc hkb hccl s1 r1 r2 r3 s2 ihE ihD ihA ihD1 e5 e0
          have hrb1 : r ≤ 8900000 := by omega
          go_wp2_with fail
          refine Calls.mono (mt0 r hrb1 _) ?_
          rintro ee w1 ⟨rfl, hb1⟩
          have HMK1 : Hid (Mk K wr w1) := Mk.trans (Mk.refl K wr) (Mk.later hb1)
          clear hb1
          obtain ⟨v2, y2, sk2⟩ := Mk.kin HMK1.out ⟨b, off + i * 9, none⟩ _ HKB.out q0
          obtain ⟨z2, rfl⟩ := sk2.str
          obtain ⟨bc3, bt3, hpc3⟩ := Mk.plain HMK1.out b HKB.out ⟨bc, bt, HPC.out⟩
          have f3 := frozen_of hpc3 (off + i * 9)
          have HMK4 : Hid (Mk K wr ((w1).setCell ⟨b, off + i * 9, none⟩ (.string (markS r)))) := Mk.trans HMK1.out (Mk.set HKB.out y2 (str_sk _ _))
          clear hpc3
          obtain ⟨v5, y5, sk5⟩ := Mk.kin HMK4.out ⟨b, off + i * 9 + 1, none⟩ _ HKB.out q1
          rw [sk5.slice] at y5
          have HC6 : Hid (Calls Try.prog 44 #[.slice p1 x.ss.length g1, .int .i64 ((r : Int) + 1 + 1)] (((w1).setCell ⟨b, off + i * 9, none⟩ (.string (markS r)))) fun e w' => ∃ r2 : Nat, ((r + 1) ≤ r2 ∧ r2 ≤ (r + 1) + x.ss.length) ∧ e = .returned (.int .i64 ((r2 : Int) + 1)) ∧ Mk K (((w1).setCell ⟨b, off + i * 9, none⟩ (.string (markS r)))) w') := by
            have h9 := markStrS_any x.ss p1 g1 (r + 1) (((w1).setCell ⟨b, off + i * 9, none⟩ (.string (markS r)))) (row_kin HROW1.out HMK4.out strQ_kin) (fun b hb => Mk.plain HMK4.out b hb (HPL.out b hb)) (by omega)
            have e9 : (((r + 1) : Nat) : Int) + 1 = ((r : Int) + 1 + 1) := by omega
            rw [e9] at h9
            exact Calls.mono h9 fun e w' ⟨h1, h2, _⟩ => ⟨_, ⟨by omega, Nat.le_refl _⟩, h1, h2⟩
          go_wp2_with fail
          refine Calls.mono HC6.out ?_
          rintro ee w6 ⟨r6, ⟨hr6, hs6⟩, rfl, hmk⟩
          have HMK6 : Hid (Mk K wr w6) := Mk.trans HMK4.out hmk
          clear hmk y2 f3 y5
          obtain ⟨v7, y7, sk7⟩ := Mk.kin HMK6.out ⟨b, off + i * 9 + 2, none⟩ _ HKB.out q2
          obtain ⟨z7, rfl⟩ := sk7.int
          obtain ⟨bc8, bt8, hpc8⟩ := Mk.plain HMK6.out b HKB.out ⟨bc, bt, HPC.out⟩
          have f8 := frozen_of hpc8 (off + i * 9 + 2)
          have HMK9 : Hid (Mk K wr ((w6).setCell ⟨b, off + i * 9 + 2, none⟩ (.int .i64 ((r6 : Int) + 1)))) := Mk.trans HMK6.out (Mk.set HKB.out y7 (int_sk _ _))
          clear hpc8
          have hrb10 : r6 ≤ 8900000 := by omega
          go_wp2_with fail
          refine Calls.mono (mt1 r6 hrb10 _) ?_
          rintro ee w10 ⟨rfl, hb10⟩
          clear y7 f8
          have HMK10 : Hid (Mk K wr w10) := Mk.trans HMK9.out (Mk.later hb10)
          clear hb10
          obtain ⟨v11, y11, sk11⟩ := Mk.kin HMK10.out ⟨b, off + i * 9 + 3, none⟩ _ HKB.out q3
          obtain ⟨z11, rfl⟩ := sk11.str
          obtain ⟨bc12, bt12, hpc12⟩ := Mk.plain HMK10.out b HKB.out ⟨bc, bt, HPC.out⟩
          have f12 := frozen_of hpc12 (off + i * 9 + 3)
          have HMK13 : Hid (Mk K wr ((w10).setCell ⟨b, off + i * 9 + 3, none⟩ (.string (markS (r6 + 1))))) := Mk.trans HMK10.out (Mk.set HKB.out y11 (str_sk _ _))
          clear hpc12
          obtain ⟨v14, y14, sk14⟩ := Mk.kin HMK13.out ⟨b, off + i * 9 + 4, none⟩ _ HKB.out q4
          obtain ⟨z14, rfl⟩ := sk14.int
          obtain ⟨bc15, bt15, hpc15⟩ := Mk.plain HMK13.out b HKB.out ⟨bc, bt, HPC.out⟩
          have f15 := frozen_of hpc15 (off + i * 9 + 4)
          have HMK16 : Hid (Mk K wr ((((w10).setCell ⟨b, off + i * 9 + 3, none⟩ (.string (markS (r6 + 1))))).setCell ⟨b, off + i * 9 + 4, none⟩ (.int .i64 ((r6 : Int) + 1 + 1 + 1)))) := Mk.trans HMK13.out (Mk.set HKB.out y14 (int_sk _ _))
          clear hpc15
          obtain ⟨v17, y17, sk17⟩ := Mk.kin HMK16.out ⟨b, off + i * 9 + 5, none⟩ _ HKB.out q5
          rw [sk17.slice] at y17
          have HC18 : Hid (Calls Try.prog 34 #[.slice o1 e.l.length c1, .int .i64 ((r6 : Int) + 1 + 1 + 1 + 1)] (((((w10).setCell ⟨b, off + i * 9 + 3, none⟩ (.string (markS (r6 + 1))))).setCell ⟨b, off + i * 9 + 4, none⟩ (.int .i64 ((r6 : Int) + 1 + 1 + 1)))) (MkP K (r6 + 3) (4 * lw (wts H).ex e.l) (((((w10).setCell ⟨b, off + i * 9 + 3, none⟩ (.string (markS (r6 + 1))))).setCell ⟨b, off + i * 9 + 4, none⟩ (.int .i64 ((r6 : Int) + 1 + 1 + 1)))))) := by
            have h9 := HihE.out e.l o1 c1 (r6 + 3) (((((w10).setCell ⟨b, off + i * 9 + 3, none⟩ (.string (markS (r6 + 1))))).setCell ⟨b, off + i * 9 + 4, none⟩ (.int .i64 ((r6 : Int) + 1 + 1 + 1)))) ((row_shp HMK16.out H).1 HROW5.out) (fun b hb => Mk.plain HMK16.out b hb (HPL.out b hb)) m1 (by omega)
            have e9 : (((r6 + 3) : Nat) : Int) + 1 = ((r6 : Int) + 1 + 1 + 1 + 1) := by omega
            rw [e9] at h9
            exact h9
          go_wp2_with fail
          refine Calls.mono HC18.out ?_
          rintro ee w18 ⟨r18, rfl, hr18, hs18, hmk⟩
          have HMK18 : Hid (Mk K wr w18) := Mk.trans HMK16.out hmk
          clear hmk y11 f12 y14 f15 y17
          obtain ⟨v19, y19, sk19⟩ := Mk.kin HMK18.out ⟨b, off + i * 9 + 6, none⟩ _ HKB.out q6
          rw [sk19.slice] at y19
          have HC20 : Hid (Calls Try.prog 35 #[.slice o2 e.ds.length c2, .int .i64 ((r18 : Int) + 1)] (w18) (MkP K r18 (4 * lw (wts H).de e.ds) (w18))) := by
            have h9 := HihD.out e.ds o2 c2 r18 (w18) ((row_shp HMK18.out H).2.1 HROW6.out) (fun b hb => Mk.plain HMK18.out b hb (HPL.out b hb)) m2 (by omega)
            have e9 : ((r18 : Nat) : Int) + 1 = ((r18 : Int) + 1) := by omega
            rw [e9] at h9
            exact h9
          go_wp2_with fail
          refine Calls.mono HC20.out ?_
          rintro ee w20 ⟨r20, rfl, hr20, hs20, hmk⟩
          have HMK20 : Hid (Mk K wr w20) := Mk.trans HMK18.out hmk
          clear hmk y19
          obtain ⟨v21, y21, sk21⟩ := Mk.kin HMK20.out ⟨b, off + i * 9 + 7, none⟩ _ HKB.out q7
          rw [sk21.slice] at y21
          have HC22 : Hid (Calls Try.prog 36 #[.slice o3 e.al.length c3, .int .i64 ((r20 : Int) + 1)] (w20) (MkP K r20 (4 * lw (wts H).al e.al) (w20))) := by
            have h9 := HihA.out e.al o3 c3 r20 (w20) ((row_shp HMK20.out H).2.2 HROW7.out) (fun b hb => Mk.plain HMK20.out b hb (HPL.out b hb)) m3 (by omega)
            have e9 : ((r20 : Nat) : Int) + 1 = ((r20 : Int) + 1) := by omega
            rw [e9] at h9
            exact h9
          go_wp2_with fail
          refine Calls.mono HC22.out ?_
          rintro ee w22 ⟨r22, rfl, hr22, hs22, hmk⟩
          have HMK22 : Hid (Mk K wr w22) := Mk.trans HMK20.out hmk
          clear hmk y21
          obtain ⟨v23, y23, sk23⟩ := Mk.kin HMK22.out ⟨b, off + i * 9 + 8, none⟩ _ HKB.out q8
          rw [sk23.slice] at y23
          have HC24 : Hid (Calls Try.prog 35 #[.slice p2 x.ds.length g2, .int .i64 ((r22 : Int) + 1)] (w22) (MkP K r22 (4 * lw (wts (H + 1)).de x.ds) (w22))) := by
            have h9 := HihD1.out x.ds p2 g2 r22 (w22) ((row_shp HMK22.out (H + 1)).2.1 HROW8.out) (fun b hb => Mk.plain HMK22.out b hb (HPL.out b hb)) l2 (by omega)
            have e9 : ((r22 : Nat) : Int) + 1 = ((r22 : Int) + 1) := by omega
            rw [e9] at h9
            exact h9
          go_wp2_with fail
          refine Calls.mono HC24.out ?_
          rintro ee w24 ⟨r24, rfl, hr24, hs24, hmk⟩
          have HMK24 : Hid (Mk K wr w24) := Mk.trans HMK22.out hmk
          clear hmk y23
          go_wp2
          go_roundw
          case rel => exact ⟨i + 1, r24, by omega, by go_num, rfl, by omega, by omega, HM.out.trans HMK24.out⟩
          case measure => simp [intOf]; omega
    · have hie : i = xs.length := by omega
      subst hie
      rw [List.take_length] at hrk
      clear hm
      go_wp2
      go_ret
      exact ⟨r, rfl, hkr, by unfold lw; omega, HM.out⟩

set_option maxHeartbeats 4000000 in
set_option maxRecDepth 100000 in
theorem mkA_of {K : Nat → Prop} {H : Nat} (ih : ∀ h, h < H → MkE K h ∧ MkD K h ∧ MkA K h) : MkA K H := by
  intro xs o c kk w hx hp hl hb
  have HX := hide hx
  have HP := hide hp
  have IH := hide ih
  have ml : xs.length ≤ 9223372036854775807 := hl
  clear hx hp hl ih
  go_enter Try.func36, Try.ntmps36
  go_wp2
  go_loopw [1, 5] (fun t1 t5 wr => ∃ i r : Nat, i ≤ xs.length ∧ t5 = .int .i64 i ∧ t1 = .int .i64 ((r : Int) + 1) ∧ kk ≤ r ∧ r ≤ kk + 4 * (i + ((xs.take i).map (wts H).al).sum) ∧ Mk K w wr) (fun _ t5 _ => xs.length - (intOf t5).toNat)
  case atStart => exact ⟨0, kk, Nat.zero_le _, rfl, rfl, Nat.le_refl _, by omega, Mk.refl _ _⟩
  case round =>
    obtain ⟨i, r, hi, rfl, rfl, hkr, hrk, hm⟩ := hrel
    have HM := hide hm
    by_cases hlt : i < xs.length
    · have hne : xs ≠ [] := by intro e; rw [e] at hlt; simp at hlt
      obtain ⟨hlw1, hlw2⟩ := lw_take (wts H).al xs i hlt
      obtain ⟨b, off, eo, hkb, hbl, hcs⟩ := row_kin HX.out hm (shp_kin hm H).2.2 hne
      subst eo
      obtain ⟨ccs, hccl, hkey, hsh⟩ := hcs i _ (List.getElem?_eq_getElem hlt)
      obtain ⟨x, hx⟩ : ∃ x, xs[i] = x := ⟨_, rfl⟩
      rw [hx] at hlw1 hsh
      have HPL : Hid (∀ b, K b → PlainAt wr ⟨b, 0, none⟩) := fun b hb => hm.plain b hb (HP.out b hb)
      obtain ⟨bc, bt, hpc⟩ := HPL.out b hkb
      have HPC := hide hpc
      have HKB := hide hkb
      cases H with
      | zero => exact hsh.elim
      | succ H =>
        obtain ⟨e, xst, p1, g1, ce, e0, rfl, l1, s1, e5, sE⟩ := hsh
        have hwx : (wts (H + 1)).al x = x.s.size + sw x.ss + (x.l.map (wts H).ex).sum := rfl
        cases H with
        | zero => exact sE.elim
        | succ H =>
          obtain ⟨xk, xs2, xn, o1, c1, o2, c2, o3, c3, rfl, ⟨m1, m2, m3⟩, r1, r2, r3⟩ := sE
          have hwe : (wts (H + 1)).ex e = e.s.size + lw (wts H).ex e.l + lw (wts H).de e.ds + lw (wts H).al e.al := rfl
          rw [e0] at hwx
          simp only [List.map_cons, List.map_nil, List.sum_cons, List.sum_nil] at hwx
          have hsw : x.ss.length ≤ sw x.ss := by unfold sw; omega
          obtain ⟨ihE, ihD, ihA⟩ := IH.out H (by omega)
          obtain ⟨-, ihD1, -⟩ := IH.out (H + 1) (by omega)
          have q0 : wr.cell? ⟨b, off + i * 8, none⟩ = some (.string xst) := hkey 0 _ rfl
          have q1 : wr.cell? ⟨b, off + i * 8 + 1, none⟩ = some (.slice p1 x.ss.length g1) := hkey 1 _ rfl
          have q2 : wr.cell? ⟨b, off + i * 8 + 2, none⟩ = some (.int .i64 xk) := hkey 2 _ rfl
          have q3 : wr.cell? ⟨b, off + i * 8 + 3, none⟩ = some (.string xs2) := hkey 3 _ rfl
          have q4 : wr.cell? ⟨b, off + i * 8 + 4, none⟩ = some (.int .i64 xn) := hkey 4 _ rfl
          have q5 : wr.cell? ⟨b, off + i * 8 + 5, none⟩ = some (.slice o1 e.l.length c1) := hkey 5 _ rfl
          have q6 : wr.cell? ⟨b, off + i * 8 + 6, none⟩ = some (.slice o2 e.ds.length c2) := hkey 6 _ rfl
          have q7 : wr.cell? ⟨b, off + i * 8 + 7, none⟩ = some (.slice o3 e.al.length c3) := hkey 7 _ rfl
          have HROW1 := hide s1
          have HROW5 := hide r1
          have HROW6 := hide r2
          have HROW7 := hide r3
          have HihE := hide ihE
          have HihD := hide ihD
          have HihA := hide ihA
          clear hm hcs hkey hne hpc hkb hccl s1 r1 r2 r3 ihE ihD ihA ihD1 e5 e0
          have hrb1 : r ≤ 8900000 := by omega
          go_wp2_with fail
          refine Calls.mono (mt0 r hrb1 _) ?_
          rintro ee w1 ⟨rfl, hb1⟩
          have HMK1 : Hid (Mk K wr w1) := Mk.trans (Mk.refl K wr) (Mk.later hb1)
          clear hb1
          obtain ⟨v2, y2, sk2⟩ := Mk.kin HMK1.out ⟨b, off + i * 8, none⟩ _ HKB.out q0
          obtain ⟨z2, rfl⟩ := sk2.str
          obtain ⟨bc3, bt3, hpc3⟩ := Mk.plain HMK1.out b HKB.out ⟨bc, bt, HPC.out⟩
          have f3 := frozen_of hpc3 (off + i * 8)
          have HMK4 : Hid (Mk K wr ((w1).setCell ⟨b, off + i * 8, none⟩ (.string (markS r)))) := Mk.trans HMK1.out (Mk.set HKB.out y2 (str_sk _ _))
          clear hpc3
          obtain ⟨v5, y5, sk5⟩ := Mk.kin HMK4.out ⟨b, off + i * 8 + 1, none⟩ _ HKB.out q1
          rw [sk5.slice] at y5
          have HC6 : Hid (Calls Try.prog 44 #[.slice p1 x.ss.length g1, .int .i64 ((r : Int) + 1 + 1)] (((w1).setCell ⟨b, off + i * 8, none⟩ (.string (markS r)))) fun e w' => ∃ r2 : Nat, ((r + 1) ≤ r2 ∧ r2 ≤ (r + 1) + x.ss.length) ∧ e = .returned (.int .i64 ((r2 : Int) + 1)) ∧ Mk K (((w1).setCell ⟨b, off + i * 8, none⟩ (.string (markS r)))) w') := by
            have h9 := markStrS_any x.ss p1 g1 (r + 1) (((w1).setCell ⟨b, off + i * 8, none⟩ (.string (markS r)))) (row_kin HROW1.out HMK4.out strQ_kin) (fun b hb => Mk.plain HMK4.out b hb (HPL.out b hb)) (by omega)
            have e9 : (((r + 1) : Nat) : Int) + 1 = ((r : Int) + 1 + 1) := by omega
            rw [e9] at h9
            exact Calls.mono h9 fun e w' ⟨h1, h2, _⟩ => ⟨_, ⟨by omega, Nat.le_refl _⟩, h1, h2⟩
          go_wp2_with fail
          refine Calls.mono HC6.out ?_
          rintro ee w6 ⟨r6, ⟨hr6, hs6⟩, rfl, hmk⟩
          have HMK6 : Hid (Mk K wr w6) := Mk.trans HMK4.out hmk
          clear hmk y2 f3 y5
          obtain ⟨v7, y7, sk7⟩ := Mk.kin HMK6.out ⟨b, off + i * 8 + 2, none⟩ _ HKB.out q2
          obtain ⟨z7, rfl⟩ := sk7.int
          obtain ⟨bc8, bt8, hpc8⟩ := Mk.plain HMK6.out b HKB.out ⟨bc, bt, HPC.out⟩
          have f8 := frozen_of hpc8 (off + i * 8 + 2)
          have HMK9 : Hid (Mk K wr ((w6).setCell ⟨b, off + i * 8 + 2, none⟩ (.int .i64 ((r6 : Int) + 1)))) := Mk.trans HMK6.out (Mk.set HKB.out y7 (int_sk _ _))
          clear hpc8
          have hrb10 : r6 ≤ 8900000 := by omega
          go_wp2_with fail
          refine Calls.mono (mt1 r6 hrb10 _) ?_
          rintro ee w10 ⟨rfl, hb10⟩
          clear y7 f8
          have HMK10 : Hid (Mk K wr w10) := Mk.trans HMK9.out (Mk.later hb10)
          clear hb10
          obtain ⟨v11, y11, sk11⟩ := Mk.kin HMK10.out ⟨b, off + i * 8 + 3, none⟩ _ HKB.out q3
          obtain ⟨z11, rfl⟩ := sk11.str
          obtain ⟨bc12, bt12, hpc12⟩ := Mk.plain HMK10.out b HKB.out ⟨bc, bt, HPC.out⟩
          have f12 := frozen_of hpc12 (off + i * 8 + 3)
          have HMK13 : Hid (Mk K wr ((w10).setCell ⟨b, off + i * 8 + 3, none⟩ (.string (markS (r6 + 1))))) := Mk.trans HMK10.out (Mk.set HKB.out y11 (str_sk _ _))
          clear hpc12
          obtain ⟨v14, y14, sk14⟩ := Mk.kin HMK13.out ⟨b, off + i * 8 + 4, none⟩ _ HKB.out q4
          obtain ⟨z14, rfl⟩ := sk14.int
          obtain ⟨bc15, bt15, hpc15⟩ := Mk.plain HMK13.out b HKB.out ⟨bc, bt, HPC.out⟩
          have f15 := frozen_of hpc15 (off + i * 8 + 4)
          have HMK16 : Hid (Mk K wr ((((w10).setCell ⟨b, off + i * 8 + 3, none⟩ (.string (markS (r6 + 1))))).setCell ⟨b, off + i * 8 + 4, none⟩ (.int .i64 ((r6 : Int) + 1 + 1 + 1)))) := Mk.trans HMK13.out (Mk.set HKB.out y14 (int_sk _ _))
          clear hpc15
          obtain ⟨v17, y17, sk17⟩ := Mk.kin HMK16.out ⟨b, off + i * 8 + 5, none⟩ _ HKB.out q5
          rw [sk17.slice] at y17
          have HC18 : Hid (Calls Try.prog 34 #[.slice o1 e.l.length c1, .int .i64 ((r6 : Int) + 1 + 1 + 1 + 1)] (((((w10).setCell ⟨b, off + i * 8 + 3, none⟩ (.string (markS (r6 + 1))))).setCell ⟨b, off + i * 8 + 4, none⟩ (.int .i64 ((r6 : Int) + 1 + 1 + 1)))) (MkP K (r6 + 3) (4 * lw (wts H).ex e.l) (((((w10).setCell ⟨b, off + i * 8 + 3, none⟩ (.string (markS (r6 + 1))))).setCell ⟨b, off + i * 8 + 4, none⟩ (.int .i64 ((r6 : Int) + 1 + 1 + 1)))))) := by
            have h9 := HihE.out e.l o1 c1 (r6 + 3) (((((w10).setCell ⟨b, off + i * 8 + 3, none⟩ (.string (markS (r6 + 1))))).setCell ⟨b, off + i * 8 + 4, none⟩ (.int .i64 ((r6 : Int) + 1 + 1 + 1)))) ((row_shp HMK16.out H).1 HROW5.out) (fun b hb => Mk.plain HMK16.out b hb (HPL.out b hb)) m1 (by omega)
            have e9 : (((r6 + 3) : Nat) : Int) + 1 = ((r6 : Int) + 1 + 1 + 1 + 1) := by omega
            rw [e9] at h9
            exact h9
          go_wp2_with fail
          refine Calls.mono HC18.out ?_
          rintro ee w18 ⟨r18, rfl, hr18, hs18, hmk⟩
          have HMK18 : Hid (Mk K wr w18) := Mk.trans HMK16.out hmk
          clear hmk y11 f12 y14 f15 y17
          obtain ⟨v19, y19, sk19⟩ := Mk.kin HMK18.out ⟨b, off + i * 8 + 6, none⟩ _ HKB.out q6
          rw [sk19.slice] at y19
          have HC20 : Hid (Calls Try.prog 35 #[.slice o2 e.ds.length c2, .int .i64 ((r18 : Int) + 1)] (w18) (MkP K r18 (4 * lw (wts H).de e.ds) (w18))) := by
            have h9 := HihD.out e.ds o2 c2 r18 (w18) ((row_shp HMK18.out H).2.1 HROW6.out) (fun b hb => Mk.plain HMK18.out b hb (HPL.out b hb)) m2 (by omega)
            have e9 : ((r18 : Nat) : Int) + 1 = ((r18 : Int) + 1) := by omega
            rw [e9] at h9
            exact h9
          go_wp2_with fail
          refine Calls.mono HC20.out ?_
          rintro ee w20 ⟨r20, rfl, hr20, hs20, hmk⟩
          have HMK20 : Hid (Mk K wr w20) := Mk.trans HMK18.out hmk
          clear hmk y19
          obtain ⟨v21, y21, sk21⟩ := Mk.kin HMK20.out ⟨b, off + i * 8 + 7, none⟩ _ HKB.out q7
          rw [sk21.slice] at y21
          have HC22 : Hid (Calls Try.prog 36 #[.slice o3 e.al.length c3, .int .i64 ((r20 : Int) + 1)] (w20) (MkP K r20 (4 * lw (wts H).al e.al) (w20))) := by
            have h9 := HihA.out e.al o3 c3 r20 (w20) ((row_shp HMK20.out H).2.2 HROW7.out) (fun b hb => Mk.plain HMK20.out b hb (HPL.out b hb)) m3 (by omega)
            have e9 : ((r20 : Nat) : Int) + 1 = ((r20 : Int) + 1) := by omega
            rw [e9] at h9
            exact h9
          go_wp2_with fail
          refine Calls.mono HC22.out ?_
          rintro ee w22 ⟨r22, rfl, hr22, hs22, hmk⟩
          have HMK22 : Hid (Mk K wr w22) := Mk.trans HMK20.out hmk
          clear hmk y21
          go_wp2
          go_roundw
          case rel => exact ⟨i + 1, r22, by omega, by go_num, rfl, by omega, by omega, HM.out.trans HMK22.out⟩
          case measure => simp [intOf]; omega
    · have hie : i = xs.length := by omega
      subst hie
      rw [List.take_length] at hrk
      clear hm
      go_wp2
      go_ret
      exact ⟨r, rfl, hkr, by unfold lw; omega, HM.out⟩

theorem mk_all (K : Nat → Prop) : ∀ h, MkE K h ∧ MkD K h ∧ MkA K h := by
  have key : ∀ n h, h < n → MkE K h ∧ MkD K h ∧ MkA K h := by
    intro n
    induction n with
    | zero => intro h hh; omega
    | succ n ih =>
      intro h hh
      have ih' : ∀ h', h' < h → MkE K h' ∧ MkD K h' ∧ MkA K h' := fun h' hh' => ih h' (by omega)
      exact ⟨mkE_of ih', mkD_of ih', mkA_of ih'⟩
  exact fun h => key (h + 1) h (Nat.lt_succ_self h)
end Go.Proofs.Ytgeckgdmkjddpaa.Nm
namespace Go.Proofs.Ytgeckgdmkjddpaa.Nm
open Go.ChangeShapes Go.WideShapes Go.ChangeAt Go.RowKit

set_option maxHeartbeats 1000000 in
set_option maxRecDepth 100000 in
theorem markExp_any {K : Nat → Prop} {h : Nat} (x : Tr) (cs : List Value) (w : World) (hr : (reads K w h).ex x cs) (hK : ∀ b, K b → b < w.heap.size ∧ PlainAt w ⟨b, 0, none⟩) (hw : (wts h).ex x ≤ 1048576) :
    Calls Try.prog 10 #[.agg cs.toArray, .int .i64 1] w fun e w' => ∃ r : Nat, e = .returned (.int .i64 ((r : Int) + 1)) ∧ r ≤ 4800000 ∧ Mk K w w' := by
  have hs := (shp_of h).1 _ _ hr
  obtain ⟨p1, d1, p2, d2, p3, d3, rfl⟩ := ex_form hr
  cases h with
  | zero => exact hr.elim
  | succ h =>
    obtain ⟨k, s, n, o1, c1, o2, c2, o3, c3, ec, ⟨l1, l2, l3⟩, r1, r2, r3⟩ := hs
    simp only [List.cons.injEq, Value.slice.injEq, true_and, and_true] at ec
    obtain ⟨-, -, -, ⟨rfl, rfl⟩, ⟨rfl, rfl⟩, rfl, rfl⟩ := ec
    have hwx : (wts (h + 1)).ex x = x.s.size + lw (wts h).ex x.l + lw (wts h).de x.ds + lw (wts h).al x.al := rfl
    obtain ⟨iE, iD, iA⟩ := mk_all K h
    obtain ⟨V, hV⟩ : ∃ V, w.alloc (.cells #[.int .i64 x.k, .string x.s, .int .i64 x.n, .slice p1 x.l.length d1, .slice p2 x.ds.length d2, .slice p3 x.al.length d3] 32) = V := ⟨_, rfl⟩
    have hb0 : Below w.heap.size w V := by rw [← hV]; exact (Below.refl _ w).alloc (Nat.le_refl _) _
    have hsV : V.heap.size = w.heap.size + 1 := by rw [← hV]; simp
    have hbox : V.heap[w.heap.size]? = some (.cells #[.int .i64 x.k, .string x.s, .int .i64 x.n, .slice p1 x.l.length d1, .slice p2 x.ds.length d2, .slice p3 x.al.length d3] 32 (0, 0)) := by rw [← hV]; exact heap_alloc_new w _
    have hnK : ¬ K w.heap.size := fun e => by have := (hK _ e).1; omega
    have HPW : Hid (∀ W, Mk K V W → ∀ b, K b → PlainAt W ⟨b, 0, none⟩) := fun W hW b hb => hW.plain b hb (by
      obtain ⟨h1, c, e, h2⟩ := hK b hb
      exact ⟨c, e, (hb0.block b h1).trans h2⟩)
    have HBX : Hid (∀ W, Mk K V W → W.heap[w.heap.size]? = some (.cells #[.int .i64 x.k, .string x.s, .int .i64 x.n, .slice p1 x.l.length d1, .slice p2 x.ds.length d2, .slice p3 x.al.length d3] 32 (0, 0))) := fun W hW => (hW.keep.block _ ⟨hnK, by omega⟩).trans hbox
    have HM0 : Hid (Mk K w V) := Mk.later hb0
    have HR1 := hide r1
    have HR2 := hide r2
    have HR3 := hide r3
    have y3 := cell_of hbox 3
    simp only [List.getElem?_toArray, List.getElem?_cons_succ, List.getElem?_cons_zero] at y3
    have HC1 : Hid (Calls Try.prog 34 #[.slice p1 x.l.length d1, .int .i64 1] V (MkP K 0 (4 * lw (wts h).ex x.l) V)) := iE x.l p1 d1 0 V ((row_shp HM0.out h).1 r1) (HPW.out V (Mk.refl _ _)) l1 (by omega)
    have HID := hide iD
    have HIA := hide iA
    clear hr hK r1 r2 r3 hb0 hbox iE iD iA hnK
    go_enter Try.func10, Try.ntmps10
    go_wp2_with fail
    refine Calls.mono HC1.out ?_
    rintro e w1 ⟨r1, rfl, ha1, hb1, hm1⟩
    have HM1 := hide hm1
    have z4 := cell_of (HBX.out w1 hm1) 4
    simp only [List.getElem?_toArray, List.getElem?_cons_succ, List.getElem?_cons_zero] at z4
    have HC2 := hide (HID.out x.ds p2 d2 r1 w1 ((row_shp (HM0.out.trans hm1) h).2.1 HR2.out) (HPW.out w1 hm1) l2 (by omega))
    clear hm1 y3
    go_wp2_with fail
    refine Calls.mono HC2.out ?_
    rintro e w2 ⟨r2, rfl, ha2, hb2, hm2⟩
    have HM2 := hide (HM1.out.trans hm2)
    have z5 := cell_of (HBX.out w2 HM2.out) 5
    simp only [List.getElem?_toArray, List.getElem?_cons_succ, List.getElem?_cons_zero] at z5
    have HC3 := hide (HIA.out x.al p3 d3 r2 w2 ((row_shp (HM0.out.trans HM2.out) h).2.2 HR3.out) (HPW.out w2 HM2.out) l3 (by omega))
    clear hm2 z4
    go_wp2_with fail
    refine Calls.mono HC3.out ?_
    rintro e w3 ⟨r3, rfl, ha3, hb3, hm3⟩
    have HM3 := hide (HM0.out.trans (HM2.out.trans hm3))
    clear hm3 z5
    go_wp2
    go_ret
    exact ⟨r3, rfl, by omega, HM3.out⟩
theorem reads_in {K : Nat → Prop} (w : World) : ∀ h, (∀ e cs, (reads K w h).ex e cs → (reads (fun b => K b ∧ b < w.heap.size) w h).ex e cs) ∧ (∀ d cs, (reads K w h).de d cs → (reads (fun b => K b ∧ b < w.heap.size) w h).de d cs) ∧ (∀ a cs, (reads K w h).al a cs → (reads (fun b => K b ∧ b < w.heap.size) w h).al a cs) := by
  have row : ∀ {α : Type} {R R' : α → List Value → Prop} {sz : Nat} {o : Option Addr} {xs : List α}, RowOf K w R sz o xs → (∀ x cs, R x cs → R' x cs) → RowOf (fun b => K b ∧ b < w.heap.size) w R' sz o xs := fun hr hR hne => by
    obtain ⟨b, off, e, hk, hl, hc⟩ := hr hne
    exact ⟨b, off, e, ⟨hk, hl⟩, hl, fun i x hx => by obtain ⟨cs, h1, h2, h3⟩ := hc i x hx; exact ⟨cs, h1, h2, hR x cs h3⟩⟩
  intro h
  induction h with
  | zero => exact ⟨fun _ _ h => h, fun _ _ h => h, fun _ _ h => h⟩
  | succ h ih =>
    obtain ⟨ih1, ih2, ih3⟩ := ih
    refine ⟨fun e cs he => ?_, fun d cs hd => ?_, fun a cs ha => ?_⟩
    · obtain ⟨e0, o1, c1, o2, c2, o3, c3, e1, e2, e3, e4, e5, r1, r2, r3⟩ := he
      exact ⟨e0, o1, c1, o2, c2, o3, c3, e1, e2, e3, e4, e5, row r1 ih1, row r2 ih2, row r3 ih3⟩
    · obtain ⟨d0, d1, d2, e, o1, c1, ce, o2, c2, e0, e1, e2, e3, e4, r1, e5, r2, r3⟩ := hd
      exact ⟨d0, d1, d2, e, o1, c1, ce, o2, c2, e0, e1, e2, e3, e4, row r1 (fun _ _ h => h), e5, ih1 _ _ r2, row r3 ih2⟩
    · obtain ⟨a0, a1, a2, a3, e, o1, c1, ce, e0, e1, e2, e3, r1, e4, r2⟩ := ha
      exact ⟨a0, a1, a2, a3, e, o1, c1, ce, e0, e1, e2, e3, row r1 (fun _ _ h => h), e4, ih1 _ _ r2⟩
theorem sum_lin (f g : Tr → Nat) (c k : Nat) : ∀ (l : List Tr), (∀ x ∈ l, f x ≤ c + k * g x) → c ≤ k → (l.map f).sum ≤ k * lw g l := by
  intro l
  induction l with
  | nil => intro _ _; simp
  | cons a r ih =>
    intro hx hc
    have h1 := hx a (by simp)
    have h2 := ih (fun x hm => hx x (by simp [hm])) hc
    unfold lw at *
    simp only [List.map_cons, List.sum_cons, List.length_cons]
    have e : k * (r.length + 1 + (g a + (r.map g).sum)) = k * (r.length + (r.map g).sum) + k + k * g a := by
      rw [Nat.mul_add, Nat.mul_add, Nat.mul_add, Nat.mul_add, Nat.mul_one]
      omega
    omega
theorem row_all {K : Nat → Prop} {w : World} {R : Tr → List Value → Prop} {sz : Nat} {o : Option Addr} {xs : List Tr} (h : RowOf K w R sz o xs) : ∀ x ∈ xs, ∃ cs, R x cs := by
  intro x hx
  obtain ⟨i, hi⟩ := List.mem_iff_getElem?.1 hx
  obtain ⟨b, off, -, -, -, hc⟩ := h (fun e => by rw [e] at hx; cases hx)
  obtain ⟨cs, -, -, hr⟩ := hc i x hi
  exact ⟨cs, hr⟩
end Go.Proofs.Ytgeckgdmkjddpaa.Nm

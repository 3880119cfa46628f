/- The law's marks of programs. -/
import Derived.Test.YtihjpkldefllgakGreatBW
import Derived.Test.YtihjpkldefllgakGreatPD
namespace Go.Proofs.YtihjpkldefllgakGreat.Nm
open Go.ChangeShapes Go.WideShapes Go.ChangeAt Go.RowKit

def tyQ (K : Nat → Prop) (w : World) : Nat → Tr → List Value → Prop
  | 0 => fun _ _ => False
  | h + 1 => fun t cs => ∃ k s n o c, cs = [.int .i64 k, .string s, .int .i64 n, .slice o t.l.length c] ∧ t.l.length ≤ maxLen ∧ RowOf K w (tyQ K w h) 4 o t.l
def nlQ (K : Nat → Prop) (w : World) (R : Tr → List Value → Prop) (n : Nat) : Tr → List Value → Prop := fun t cs => ∃ s o c, cs = [.string s, .slice o t.l.length c] ∧ t.l.length ≤ maxLen ∧ RowOf K w R n o t.l
def coQ (K : Nat → Prop) (w : World) (h : Nat) : Tr → List Value → Prop := nlQ K w (tyQ K w h) 4
def daQ (K : Nat → Prop) (w : World) (h : Nat) : Tr → List Value → Prop := nlQ K w (coQ K w h) 2
theorem tyQ_of {K : Nat → Prop} {w : World} : ∀ h t cs, tyR K w h t cs → tyQ K w h t cs := by
  intro h
  induction h with
  | zero => exact fun _ _ h => h
  | succ h ih =>
    intro t cs hr
    obtain ⟨-, -, -, o, c, e1, -, e3, r⟩ := hr
    exact ⟨t.k, t.s, t.n, o, c, e1, e3.1, r.frame (Stays.refl _ _) (fun _ h => h) ih⟩
theorem nlQ_of {K : Nat → Prop} {w : World} {R R' : Tr → List Value → Prop} {n : Nat} (hR : ∀ t cs, R t cs → R' t cs) (t : Tr) (cs : List Value) (hr : nlR K w R n t cs) : nlQ K w R' n t cs := by
  obtain ⟨-, -, -, -, -, o, c, e1, -, e3, r⟩ := hr
  exact ⟨t.s, o, c, e1, e3.1, r.frame (Stays.refl _ _) (fun _ h => h) hR⟩
theorem daQ_of {K : Nat → Prop} {w : World} (h : Nat) : ∀ t cs, daR K w h t cs → daQ K w h t cs := nlQ_of (nlQ_of (tyQ_of h))
theorem tyQ_kin {K : Nat → Prop} {w w' : World} (hm : Mk K w w') : ∀ h t cs cs', SkL cs cs' → tyQ K w h t cs → tyQ K w' h t cs' := by
  intro h
  induction h with
  | zero => exact fun _ _ _ _ h => h
  | succ h ih =>
    intro t cs cs' hs hr
    obtain ⟨k, s, n, o, c, rfl, e, r⟩ := hr
    obtain ⟨a, b, x, d, rfl⟩ := four_of hs.1
    obtain ⟨k', rfl⟩ := (hs.2 0 _ _ rfl rfl : Sk (.int .i64 k) a).int
    obtain ⟨s', rfl⟩ := (hs.2 1 _ _ rfl rfl : Sk (.string s) b).str
    obtain ⟨n', rfl⟩ := (hs.2 2 _ _ rfl rfl : Sk (.int .i64 n) x).int
    rw [(hs.2 3 _ _ rfl rfl : Sk (.slice o t.l.length c) d).slice]
    exact ⟨k', s', n', o, c, rfl, e, row_kin r hm ih⟩
theorem nlQ_kin {K : Nat → Prop} {w w' : World} {R R' : Tr → List Value → Prop} {n : Nat} (hm : Mk K w w') (hR : ∀ t cs cs', SkL cs cs' → R t cs → R' t cs') : ∀ t cs cs', SkL cs cs' → nlQ K w R n t cs → nlQ K w' R' n t cs' := by
  intro t cs cs' hs hr
  obtain ⟨s, o, c, rfl, e, r⟩ := hr
  obtain ⟨a, b, rfl⟩ := two_of hs.1
  obtain ⟨s', rfl⟩ := (hs.2 0 _ _ rfl rfl : Sk (.string s) a).str
  rw [(hs.2 1 _ _ rfl rfl : Sk (.slice o t.l.length c) b).slice]
  exact ⟨s', o, c, rfl, e, row_kin r hm hR⟩
theorem coQ_kin {K : Nat → Prop} {w w' : World} (hm : Mk K w w') (h : Nat) : ∀ t cs cs', SkL cs cs' → coQ K w h t cs → coQ K w' h t cs' := nlQ_kin hm (tyQ_kin hm h)
theorem daQ_kin {K : Nat → Prop} {w w' : World} (hm : Mk K w w') (h : Nat) : ∀ t cs cs', SkL cs cs' → daQ K w h t cs → daQ K w' h t cs' := nlQ_kin hm (coQ_kin hm h)
def MkT (K : Nat → Prop) (h : Nat) : Prop := ∀ (xs : List Tr) (o : Option Addr) (c kk : Nat) (w : World), RowOf K w (tyQ K w h) 4 o xs → (∀ b, K b → PlainAt w ⟨b, 0, none⟩) → xs.length ≤ maxLen → kk + 4 * lw (wty h) xs ≤ 4900000 → Calls Tryz.prog 61 #[.slice o xs.length c, .int .i64 ((kk : Int) + 1)] w (MkP K kk (4 * lw (wty h) xs) w)
def MkC (K : Nat → Prop) (h : Nat) : Prop := ∀ (xs : List Tr) (o : Option Addr) (c kk : Nat) (w : World), RowOf K w (coQ K w h) 2 o xs → (∀ b, K b → PlainAt w ⟨b, 0, none⟩) → xs.length ≤ maxLen → kk + 4 * lw (wco h) xs ≤ 4900000 → Calls Tryz.prog 44 #[.slice o xs.length c, .int .i64 ((kk : Int) + 1)] w (MkP K kk (4 * lw (wco h) xs) w)
def MkG (K : Nat → Prop) (h : Nat) : Prop := ∀ (xs : List Tr) (o : Option Addr) (c kk : Nat) (w : World), RowOf K w (daQ K w h) 2 o xs → (∀ b, K b → PlainAt w ⟨b, 0, none⟩) → xs.length ≤ maxLen → kk + 4 * lw (wda h) xs ≤ 4900000 → Calls Tryz.prog 27 #[.slice o xs.length c, .int .i64 ((kk : Int) + 1)] w (MkP K kk (4 * lw (wda h) xs) w)

set_option maxHeartbeats 4000000 in
set_option maxRecDepth 100000 in
theorem mkT_of {K : Nat → Prop} {H : Nat} (ih : ∀ h, h < H → MkT K h) : MkT K H := by
  intro xs o c kk w hx hp hl hb
  have HX := hide hx
  have HP := hide hp
  have IH := hide ih
  have ml : xs.length ≤ 9223372036854775807 := hl
  clear hx hp hl ih
  go_enter Tryz.func61, Tryz.ntmps61
  go_wp2
  go_loopw [1, 5] (fun t1 t5 wr => ∃ i r : Nat, i ≤ xs.length ∧ t5 = .int .i64 i ∧ t1 = .int .i64 ((r : Int) + 1) ∧ kk ≤ r ∧ r ≤ kk + 4 * (i + ((xs.take i).map (wty H)).sum) ∧ Mk K w wr) (fun _ t5 _ => xs.length - (intOf t5).toNat)
  case atStart => exact ⟨0, kk, Nat.zero_le _, rfl, rfl, Nat.le_refl _, by omega, Mk.refl _ _⟩
  case round =>
    obtain ⟨i, r, hi, rfl, rfl, hkr, hrk, hm⟩ := hrel
    have HM := hide hm
    by_cases hlt : i < xs.length
    · have hne : xs ≠ [] := by intro e; rw [e] at hlt; simp at hlt
      obtain ⟨hlw1, hlw2⟩ := lw_take (wty H) xs i hlt
      obtain ⟨b, off, eo, hkb, hbl, hcs⟩ := row_kin HX.out hm (tyQ_kin hm H) hne
      subst eo
      obtain ⟨ccs, hccl, hkey, hsh⟩ := hcs i _ (List.getElem?_eq_getElem hlt)
      obtain ⟨x, hx⟩ : ∃ x, xs[i] = x := ⟨_, rfl⟩
      rw [hx] at hlw1 hsh
      have HPL : Hid (∀ b, K b → PlainAt wr ⟨b, 0, none⟩) := fun b hb => hm.plain b hb (HP.out b hb)
      obtain ⟨bc, bt, hpc⟩ := HPL.out b hkb
      have HPC := hide hpc
      have HKB := hide hkb
      cases H with
      | zero => exact hsh.elim
      | succ H =>
        obtain ⟨xk, xst, xn, o1, c1, rfl, l1, r1⟩ := hsh
        have hwx : wty (H + 1) x = x.s.size + lw (wty H) x.l := rfl
        have ih0 := IH.out H (by omega)
        have q0 : wr.cell? ⟨b, off + i * 4, none⟩ = some (.int .i64 xk) := hkey 0 _ rfl
        have q1 : wr.cell? ⟨b, off + i * 4 + 1, none⟩ = some (.string xst) := hkey 1 _ rfl
        have q2 : wr.cell? ⟨b, off + i * 4 + 2, none⟩ = some (.int .i64 xn) := hkey 2 _ rfl
        have q3 : wr.cell? ⟨b, off + i * 4 + 3, none⟩ = some (.slice o1 x.l.length c1) := hkey 3 _ rfl
        have HROW3 := hide r1
        have Hih0 := hide ih0
        clear hm hcs hkey hne hpc hkb hccl r1 ih0
        obtain ⟨v1, y1, sk1⟩ := Mk.kin (Mk.refl K wr) ⟨b, off + i * 4, none⟩ _ HKB.out q0
        obtain ⟨z1, rfl⟩ := sk1.int
        obtain ⟨bc2, bt2, hpc2⟩ := Mk.plain (Mk.refl K wr) b HKB.out ⟨bc, bt, HPC.out⟩
        have f2 := frozen_of hpc2 (off + i * 4)
        have HMK3 : Hid (Mk K wr ((wr).setCell ⟨b, off + i * 4, none⟩ (.int .i64 ((r : Int) + 1)))) := Mk.trans (Mk.refl K wr) (Mk.set HKB.out y1 (int_sk _ _))
        clear hpc2
        have hrb4 : r ≤ 4900000 := by omega
        go_wp2_with fail
        refine Calls.mono (mt1 r hrb4 _) ?_
        rintro ee w4 ⟨rfl, hb4⟩
        clear y1 f2
        have HMK4 : Hid (Mk K wr w4) := Mk.trans HMK3.out (Mk.later hb4)
        clear hb4
        obtain ⟨v5, y5, sk5⟩ := Mk.kin HMK4.out ⟨b, off + i * 4 + 1, none⟩ _ HKB.out q1
        obtain ⟨z5, rfl⟩ := sk5.str
        obtain ⟨bc6, bt6, hpc6⟩ := Mk.plain HMK4.out b HKB.out ⟨bc, bt, HPC.out⟩
        have f6 := frozen_of hpc6 (off + i * 4 + 1)
        have HMK7 : Hid (Mk K wr ((w4).setCell ⟨b, off + i * 4 + 1, none⟩ (.string (markS (r + 1))))) := Mk.trans HMK4.out (Mk.set HKB.out y5 (str_sk _ _))
        clear hpc6
        obtain ⟨v8, y8, sk8⟩ := Mk.kin HMK7.out ⟨b, off + i * 4 + 2, none⟩ _ HKB.out q2
        obtain ⟨z8, rfl⟩ := sk8.int
        obtain ⟨bc9, bt9, hpc9⟩ := Mk.plain HMK7.out b HKB.out ⟨bc, bt, HPC.out⟩
        have f9 := frozen_of hpc9 (off + i * 4 + 2)
        have HMK10 : Hid (Mk K wr ((((w4).setCell ⟨b, off + i * 4 + 1, none⟩ (.string (markS (r + 1))))).setCell ⟨b, off + i * 4 + 2, none⟩ (.int .i64 ((r : Int) + 1 + 1 + 1)))) := Mk.trans HMK7.out (Mk.set HKB.out y8 (int_sk _ _))
        clear hpc9
        obtain ⟨v11, y11, sk11⟩ := Mk.kin HMK10.out ⟨b, off + i * 4 + 3, none⟩ _ HKB.out q3
        rw [sk11.slice] at y11
        have HC12 : Hid (Calls Tryz.prog 61 #[.slice o1 x.l.length c1, .int .i64 ((r : Int) + 1 + 1 + 1 + 1)] (((((w4).setCell ⟨b, off + i * 4 + 1, none⟩ (.string (markS (r + 1))))).setCell ⟨b, off + i * 4 + 2, none⟩ (.int .i64 ((r : Int) + 1 + 1 + 1)))) (MkP K (r + 3) (4 * lw (wty H) x.l) (((((w4).setCell ⟨b, off + i * 4 + 1, none⟩ (.string (markS (r + 1))))).setCell ⟨b, off + i * 4 + 2, none⟩ (.int .i64 ((r : Int) + 1 + 1 + 1)))))) := by
          have h9 := Hih0.out x.l o1 c1 (r + 3) (((((w4).setCell ⟨b, off + i * 4 + 1, none⟩ (.string (markS (r + 1))))).setCell ⟨b, off + i * 4 + 2, none⟩ (.int .i64 ((r : Int) + 1 + 1 + 1)))) (row_kin HROW3.out HMK10.out (tyQ_kin HMK10.out H)) (fun b hb => Mk.plain HMK10.out b hb (HPL.out b hb)) l1 (by omega)
          have e9 : (((r + 3) : Nat) : Int) + 1 = ((r : Int) + 1 + 1 + 1 + 1) := by omega
          rw [e9] at h9
          exact h9
        go_wp2_with fail
        refine Calls.mono HC12.out ?_
        rintro ee w12 ⟨r12, rfl, hr12, hs12, hmk⟩
        have HMK12 : Hid (Mk K wr w12) := Mk.trans HMK10.out hmk
        clear hmk y5 f6 y8 f9 y11
        go_wp2
        go_roundw
        case rel => exact ⟨i + 1, r12, by omega, by go_num, rfl, by omega, by omega, HM.out.trans HMK12.out⟩
        case measure => simp [intOf]; omega
    · have hie : i = xs.length := by omega
      subst hie
      rw [List.take_length] at hrk
      clear hm
      go_wp2
      go_ret
      exact ⟨r, rfl, hkr, by unfold lw; omega, HM.out⟩

set_option maxHeartbeats 4000000 in
set_option maxRecDepth 100000 in
theorem mkC_of {K : Nat → Prop} {H : Nat} (ih : MkT K H) : MkC K H := by
  intro xs o c kk w hx hp hl hb
  have HX := hide hx
  have HP := hide hp
  have IH := hide ih
  have ml : xs.length ≤ 9223372036854775807 := hl
  clear hx hp hl ih
  go_enter Tryz.func44, Tryz.ntmps44
  go_wp2
  go_loopw [1, 5] (fun t1 t5 wr => ∃ i r : Nat, i ≤ xs.length ∧ t5 = .int .i64 i ∧ t1 = .int .i64 ((r : Int) + 1) ∧ kk ≤ r ∧ r ≤ kk + 4 * (i + ((xs.take i).map (wco H)).sum) ∧ Mk K w wr) (fun _ t5 _ => xs.length - (intOf t5).toNat)
  case atStart => exact ⟨0, kk, Nat.zero_le _, rfl, rfl, Nat.le_refl _, by omega, Mk.refl _ _⟩
  case round =>
    obtain ⟨i, r, hi, rfl, rfl, hkr, hrk, hm⟩ := hrel
    have HM := hide hm
    by_cases hlt : i < xs.length
    · have hne : xs ≠ [] := by intro e; rw [e] at hlt; simp at hlt
      obtain ⟨hlw1, hlw2⟩ := lw_take (wco H) xs i hlt
      obtain ⟨b, off, eo, hkb, hbl, hcs⟩ := row_kin HX.out hm (coQ_kin hm H) hne
      subst eo
      obtain ⟨ccs, hccl, hkey, hsh⟩ := hcs i _ (List.getElem?_eq_getElem hlt)
      obtain ⟨x, hx⟩ : ∃ x, xs[i] = x := ⟨_, rfl⟩
      rw [hx] at hlw1 hsh
      have HPL : Hid (∀ b, K b → PlainAt wr ⟨b, 0, none⟩) := fun b hb => hm.plain b hb (HP.out b hb)
      obtain ⟨bc, bt, hpc⟩ := HPL.out b hkb
      have HPC := hide hpc
      have HKB := hide hkb
      obtain ⟨xst, o1, c1, rfl, l1, r1⟩ := hsh
      have hwx : wco H x = x.s.size + lw (wty H) x.l := rfl
      have ih0 := IH.out
      have q0 : wr.cell? ⟨b, off + i * 2, none⟩ = some (.string xst) := hkey 0 _ rfl
      have q1 : wr.cell? ⟨b, off + i * 2 + 1, none⟩ = some (.slice o1 x.l.length c1) := hkey 1 _ rfl
      have HROW1 := hide r1
      have Hih0 := hide ih0
      clear hm hcs hkey hne hpc hkb hccl r1 ih0
      have hrb1 : r ≤ 4900000 := by omega
      go_wp2_with fail
      refine Calls.mono (mt0 r hrb1 _) ?_
      rintro ee w1 ⟨rfl, hb1⟩
      have HMK1 : Hid (Mk K wr w1) := Mk.trans (Mk.refl K wr) (Mk.later hb1)
      clear hb1
      obtain ⟨v2, y2, sk2⟩ := Mk.kin HMK1.out ⟨b, off + i * 2, none⟩ _ HKB.out q0
      obtain ⟨z2, rfl⟩ := sk2.str
      obtain ⟨bc3, bt3, hpc3⟩ := Mk.plain HMK1.out b HKB.out ⟨bc, bt, HPC.out⟩
      have f3 := frozen_of hpc3 (off + i * 2)
      have HMK4 : Hid (Mk K wr ((w1).setCell ⟨b, off + i * 2, none⟩ (.string (markS r)))) := Mk.trans HMK1.out (Mk.set HKB.out y2 (str_sk _ _))
      clear hpc3
      obtain ⟨v5, y5, sk5⟩ := Mk.kin HMK4.out ⟨b, off + i * 2 + 1, none⟩ _ HKB.out q1
      rw [sk5.slice] at y5
      have HC6 : Hid (Calls Tryz.prog 61 #[.slice o1 x.l.length c1, .int .i64 ((r : Int) + 1 + 1)] (((w1).setCell ⟨b, off + i * 2, none⟩ (.string (markS r)))) (MkP K (r + 1) (4 * lw (wty H) x.l) (((w1).setCell ⟨b, off + i * 2, none⟩ (.string (markS r)))))) := by
        have h9 := Hih0.out x.l o1 c1 (r + 1) (((w1).setCell ⟨b, off + i * 2, none⟩ (.string (markS r)))) (row_kin HROW1.out HMK4.out (tyQ_kin HMK4.out H)) (fun b hb => Mk.plain HMK4.out b hb (HPL.out b hb)) l1 (by omega)
        have e9 : (((r + 1) : Nat) : Int) + 1 = ((r : Int) + 1 + 1) := by omega
        rw [e9] at h9
        exact h9
      go_wp2_with fail
      refine Calls.mono HC6.out ?_
      rintro ee w6 ⟨r6, rfl, hr6, hs6, hmk⟩
      have HMK6 : Hid (Mk K wr w6) := Mk.trans HMK4.out hmk
      clear hmk y2 f3 y5
      go_wp2
      go_roundw
      case rel => exact ⟨i + 1, r6, by omega, by go_num, rfl, by omega, by omega, HM.out.trans HMK6.out⟩
      case measure => simp [intOf]; omega
    · have hie : i = xs.length := by omega
      subst hie
      rw [List.take_length] at hrk
      clear hm
      go_wp2
      go_ret
      exact ⟨r, rfl, hkr, by unfold lw; omega, HM.out⟩

set_option maxHeartbeats 4000000 in
set_option maxRecDepth 100000 in
theorem mkG_of {K : Nat → Prop} {H : Nat} (ih : MkC K H) : MkG K H := by
  intro xs o c kk w hx hp hl hb
  have HX := hide hx
  have HP := hide hp
  have IH := hide ih
  have ml : xs.length ≤ 9223372036854775807 := hl
  clear hx hp hl ih
  go_enter Tryz.func27, Tryz.ntmps27
  go_wp2
  go_loopw [1, 5] (fun t1 t5 wr => ∃ i r : Nat, i ≤ xs.length ∧ t5 = .int .i64 i ∧ t1 = .int .i64 ((r : Int) + 1) ∧ kk ≤ r ∧ r ≤ kk + 4 * (i + ((xs.take i).map (wda H)).sum) ∧ Mk K w wr) (fun _ t5 _ => xs.length - (intOf t5).toNat)
  case atStart => exact ⟨0, kk, Nat.zero_le _, rfl, rfl, Nat.le_refl _, by omega, Mk.refl _ _⟩
  case round =>
    obtain ⟨i, r, hi, rfl, rfl, hkr, hrk, hm⟩ := hrel
    have HM := hide hm
    by_cases hlt : i < xs.length
    · have hne : xs ≠ [] := by intro e; rw [e] at hlt; simp at hlt
      obtain ⟨hlw1, hlw2⟩ := lw_take (wda H) xs i hlt
      obtain ⟨b, off, eo, hkb, hbl, hcs⟩ := row_kin HX.out hm (daQ_kin hm H) hne
      subst eo
      obtain ⟨ccs, hccl, hkey, hsh⟩ := hcs i _ (List.getElem?_eq_getElem hlt)
      obtain ⟨x, hx⟩ : ∃ x, xs[i] = x := ⟨_, rfl⟩
      rw [hx] at hlw1 hsh
      have HPL : Hid (∀ b, K b → PlainAt wr ⟨b, 0, none⟩) := fun b hb => hm.plain b hb (HP.out b hb)
      obtain ⟨bc, bt, hpc⟩ := HPL.out b hkb
      have HPC := hide hpc
      have HKB := hide hkb
      obtain ⟨xst, o1, c1, rfl, l1, r1⟩ := hsh
      have hwx : wda H x = x.s.size + lw (wco H) x.l := rfl
      have ih0 := IH.out
      have q0 : wr.cell? ⟨b, off + i * 2, none⟩ = some (.string xst) := hkey 0 _ rfl
      have q1 : wr.cell? ⟨b, off + i * 2 + 1, none⟩ = some (.slice o1 x.l.length c1) := hkey 1 _ rfl
      have HROW1 := hide r1
      have Hih0 := hide ih0
      clear hm hcs hkey hne hpc hkb hccl r1 ih0
      have hrb1 : r ≤ 4900000 := by omega
      go_wp2_with fail
      refine Calls.mono (mt0 r hrb1 _) ?_
      rintro ee w1 ⟨rfl, hb1⟩
      have HMK1 : Hid (Mk K wr w1) := Mk.trans (Mk.refl K wr) (Mk.later hb1)
      clear hb1
      obtain ⟨v2, y2, sk2⟩ := Mk.kin HMK1.out ⟨b, off + i * 2, none⟩ _ HKB.out q0
      obtain ⟨z2, rfl⟩ := sk2.str
      obtain ⟨bc3, bt3, hpc3⟩ := Mk.plain HMK1.out b HKB.out ⟨bc, bt, HPC.out⟩
      have f3 := frozen_of hpc3 (off + i * 2)
      have HMK4 : Hid (Mk K wr ((w1).setCell ⟨b, off + i * 2, none⟩ (.string (markS r)))) := Mk.trans HMK1.out (Mk.set HKB.out y2 (str_sk _ _))
      clear hpc3
      obtain ⟨v5, y5, sk5⟩ := Mk.kin HMK4.out ⟨b, off + i * 2 + 1, none⟩ _ HKB.out q1
      rw [sk5.slice] at y5
      have HC6 : Hid (Calls Tryz.prog 44 #[.slice o1 x.l.length c1, .int .i64 ((r : Int) + 1 + 1)] (((w1).setCell ⟨b, off + i * 2, none⟩ (.string (markS r)))) (MkP K (r + 1) (4 * lw (wco H) x.l) (((w1).setCell ⟨b, off + i * 2, none⟩ (.string (markS r)))))) := by
        have h9 := Hih0.out x.l o1 c1 (r + 1) (((w1).setCell ⟨b, off + i * 2, none⟩ (.string (markS r)))) (row_kin HROW1.out HMK4.out (coQ_kin HMK4.out H)) (fun b hb => Mk.plain HMK4.out b hb (HPL.out b hb)) l1 (by omega)
        have e9 : (((r + 1) : Nat) : Int) + 1 = ((r : Int) + 1 + 1) := by omega
        rw [e9] at h9
        exact h9
      go_wp2_with fail
      refine Calls.mono HC6.out ?_
      rintro ee w6 ⟨r6, rfl, hr6, hs6, hmk⟩
      have HMK6 : Hid (Mk K wr w6) := Mk.trans HMK4.out hmk
      clear hmk y2 f3 y5
      go_wp2
      go_roundw
      case rel => exact ⟨i + 1, r6, by omega, by go_num, rfl, by omega, by omega, HM.out.trans HMK6.out⟩
      case measure => simp [intOf]; omega
    · have hie : i = xs.length := by omega
      subst hie
      rw [List.take_length] at hrk
      clear hm
      go_wp2
      go_ret
      exact ⟨r, rfl, hkr, by unfold lw; omega, HM.out⟩

theorem mkG_all (K : Nat → Prop) (H : Nat) : MkG K H := by
  have key : ∀ n h, h < n → MkT K h := by
    intro n
    induction n with
    | zero => intro h hh; omega
    | succ n ih =>
      intro h hh
      exact mkT_of fun h' hh' => ih h' (by omega)
  exact mkG_of (mkC_of (key (H + 1) H (Nat.lt_succ_self H)))
end Go.Proofs.YtihjpkldefllgakGreat.Nm

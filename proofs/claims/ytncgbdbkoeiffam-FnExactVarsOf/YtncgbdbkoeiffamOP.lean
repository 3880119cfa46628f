/- The law's marks of a type. -/
import Derived.Test.YtncgbdbkoeiffamBV
import Derived.Test.YtncgbdbkoeiffamPD
namespace Go.Proofs.Ytncgbdbkoeiffam.Nm
open Go.ChangeShapes Go.WideShapes Go.ChangeAt Go.RowKit

def tyQ (K : Nat → Prop) (w : World) : Nat → Tr → List Value → Prop
  | 0 => fun _ _ => False
  | h + 1 => fun t cs => ∃ k s n o c, cs = [.int .i64 k, .string s, .int .i64 n, .slice o t.l.length c] ∧ t.l.length ≤ maxLen ∧ RowOf K w (tyQ K w h) 4 o t.l
theorem tyQ_of {K : Nat → Prop} {w : World} : ∀ h t cs, tyR K w h t cs → tyQ K w h t cs := by
  intro h
  induction h with
  | zero => exact fun _ _ h => h
  | succ h ih =>
    intro t cs hr
    obtain ⟨-, -, -, o, c, e1, -, e3, r⟩ := hr
    exact ⟨t.k, t.s, t.n, o, c, e1, e3.1, r.frame (Stays.refl _ _) (fun _ h => h) ih⟩
theorem tyQ_kin {K : Nat → Prop} {w w' : World} (hm : Mk K w w') : ∀ h t cs cs', SkL cs cs' → tyQ K w h t cs → tyQ K w' h t cs' := by
  intro h
  induction h with
  | zero => exact fun _ _ _ _ h => h
  | succ h ih =>
    intro t cs cs' hs hr
    obtain ⟨k, s, n, o, c, rfl, e, r⟩ := hr
    obtain ⟨a, b, x, d, rfl⟩ := four_of hs.1
    obtain ⟨k', rfl⟩ := (hs.2 0 _ _ rfl rfl : Sk (.int .i64 k) a).int
    obtain ⟨s', rfl⟩ := (hs.2 1 _ _ rfl rfl : Sk (.string s) b).str
    obtain ⟨n', rfl⟩ := (hs.2 2 _ _ rfl rfl : Sk (.int .i64 n) x).int
    rw [(hs.2 3 _ _ rfl rfl : Sk (.slice o t.l.length c) d).slice]
    exact ⟨k', s', n', o, c, rfl, e, row_kin r hm ih⟩
def MkT (K : Nat → Prop) (h : Nat) : Prop := ∀ (xs : List Tr) (o : Option Addr) (c kk : Nat) (w : World), RowOf K w (tyQ K w h) 4 o xs → (∀ b, K b → PlainAt w ⟨b, 0, none⟩) → xs.length ≤ maxLen → kk + 4 * lw (wty h) xs ≤ 4900000 → Calls Try.prog 13 #[.slice o xs.length c, .int .i64 ((kk : Int) + 1)] w (MkP K kk (4 * lw (wty h) xs) w)
set_option maxHeartbeats 4000000 in
set_option maxRecDepth 100000 in
theorem mkT_of {K : Nat → Prop} {H : Nat} (ih : ∀ h, h < H → MkT K h) : MkT K H := by
  intro xs o c kk w hx hp hl hb
  have HX := hide hx
  have HP := hide hp
  have IH := hide ih
  have ml : xs.length ≤ 9223372036854775807 := hl
  clear hx hp hl ih
  go_enter Try.func13, Try.ntmps13
  go_wp2
  go_loopw [1, 5] (fun t1 t5 wr => ∃ i r : Nat, i ≤ xs.length ∧ t5 = .int .i64 i ∧ t1 = .int .i64 ((r : Int) + 1) ∧ kk ≤ r ∧ r ≤ kk + 4 * (i + ((xs.take i).map (wty H)).sum) ∧ Mk K w wr) (fun _ t5 _ => xs.length - (intOf t5).toNat)
  case atStart => exact ⟨0, kk, Nat.zero_le _, rfl, rfl, Nat.le_refl _, by omega, Mk.refl _ _⟩
  case round =>
    obtain ⟨i, r, hi, rfl, rfl, hkr, hrk, hm⟩ := hrel
    have HM := hide hm
    by_cases hlt : i < xs.length
    · have hne : xs ≠ [] := by intro e; rw [e] at hlt; simp at hlt
      obtain ⟨hlw1, hlw2⟩ := lw_take (wty H) xs i hlt
      obtain ⟨b, off, eo, hkb, hbl, hcs⟩ := row_kin HX.out hm (tyQ_kin hm H) hne
      subst eo
      obtain ⟨ccs, hccl, hkey, hsh⟩ := hcs i _ (List.getElem?_eq_getElem hlt)
      obtain ⟨x, hx⟩ : ∃ x, xs[i] = x := ⟨_, rfl⟩
      rw [hx] at hlw1 hsh
      have HPL : Hid (∀ b, K b → PlainAt wr ⟨b, 0, none⟩) := fun b hb => hm.plain b hb (HP.out b hb)
      obtain ⟨bc, bt, hpc⟩ := HPL.out b hkb
      have HPC := hide hpc
      have HKB := hide hkb
      cases H with
      | zero => exact hsh.elim
      | succ H =>
        obtain ⟨xk, xst, xn, o1, c1, rfl, l1, r1⟩ := hsh
        have hwx : wty (H + 1) x = x.s.size + lw (wty H) x.l := rfl
        have ih0 := IH.out H (by omega)
        have q0 : wr.cell? ⟨b, off + i * 4, none⟩ = some (.int .i64 xk) := hkey 0 _ rfl
        have q1 : wr.cell? ⟨b, off + i * 4 + 1, none⟩ = some (.string xst) := hkey 1 _ rfl
        have q2 : wr.cell? ⟨b, off + i * 4 + 2, none⟩ = some (.int .i64 xn) := hkey 2 _ rfl
        have q3 : wr.cell? ⟨b, off + i * 4 + 3, none⟩ = some (.slice o1 x.l.length c1) := hkey 3 _ rfl
        have HROW3 := hide r1
        have Hih0 := hide ih0
        clear hm hcs hkey hne hpc hkb hccl r1 ih0
        obtain ⟨v1, y1, sk1⟩ := Mk.kin (Mk.refl K wr) ⟨b, off + i * 4, none⟩ _ HKB.out q0
        obtain ⟨z1, rfl⟩ := sk1.int
        obtain ⟨bc2, bt2, hpc2⟩ := Mk.plain (Mk.refl K wr) b HKB.out ⟨bc, bt, HPC.out⟩
        have f2 := frozen_of hpc2 (off + i * 4)
        have HMK3 : Hid (Mk K wr ((wr).setCell ⟨b, off + i * 4, none⟩ (.int .i64 ((r : Int) + 1)))) := Mk.trans (Mk.refl K wr) (Mk.set HKB.out y1 (int_sk _ _))
        clear hpc2
        have hrb4 : r ≤ 4900000 := by omega
        go_wp2_with fail
        refine Calls.mono (mt1 r hrb4 _) ?_
        rintro ee w4 ⟨rfl, hb4⟩
        clear y1 f2
        have HMK4 : Hid (Mk K wr w4) := Mk.trans HMK3.out (Mk.later hb4)
        clear hb4
        obtain ⟨v5, y5, sk5⟩ := Mk.kin HMK4.out ⟨b, off + i * 4 + 1, none⟩ _ HKB.out q1
        obtain ⟨z5, rfl⟩ := sk5.str
        obtain ⟨bc6, bt6, hpc6⟩ := Mk.plain HMK4.out b HKB.out ⟨bc, bt, HPC.out⟩
        have f6 := frozen_of hpc6 (off + i * 4 + 1)
        have HMK7 : Hid (Mk K wr ((w4).setCell ⟨b, off + i * 4 + 1, none⟩ (.string (markS (r + 1))))) := Mk.trans HMK4.out (Mk.set HKB.out y5 (str_sk _ _))
        clear hpc6
        obtain ⟨v8, y8, sk8⟩ := Mk.kin HMK7.out ⟨b, off + i * 4 + 2, none⟩ _ HKB.out q2
        obtain ⟨z8, rfl⟩ := sk8.int
        obtain ⟨bc9, bt9, hpc9⟩ := Mk.plain HMK7.out b HKB.out ⟨bc, bt, HPC.out⟩
        have f9 := frozen_of hpc9 (off + i * 4 + 2)
        have HMK10 : Hid (Mk K wr ((((w4).setCell ⟨b, off + i * 4 + 1, none⟩ (.string (markS (r + 1))))).setCell ⟨b, off + i * 4 + 2, none⟩ (.int .i64 ((r : Int) + 1 + 1 + 1)))) := Mk.trans HMK7.out (Mk.set HKB.out y8 (int_sk _ _))
        clear hpc9
        obtain ⟨v11, y11, sk11⟩ := Mk.kin HMK10.out ⟨b, off + i * 4 + 3, none⟩ _ HKB.out q3
        rw [sk11.slice] at y11
        have HC12 : Hid (Calls Try.prog 13 #[.slice o1 x.l.length c1, .int .i64 ((r : Int) + 1 + 1 + 1 + 1)] (((((w4).setCell ⟨b, off + i * 4 + 1, none⟩ (.string (markS (r + 1))))).setCell ⟨b, off + i * 4 + 2, none⟩ (.int .i64 ((r : Int) + 1 + 1 + 1)))) (MkP K (r + 3) (4 * lw (wty H) x.l) (((((w4).setCell ⟨b, off + i * 4 + 1, none⟩ (.string (markS (r + 1))))).setCell ⟨b, off + i * 4 + 2, none⟩ (.int .i64 ((r : Int) + 1 + 1 + 1)))))) := by
          have h9 := Hih0.out x.l o1 c1 (r + 3) (((((w4).setCell ⟨b, off + i * 4 + 1, none⟩ (.string (markS (r + 1))))).setCell ⟨b, off + i * 4 + 2, none⟩ (.int .i64 ((r : Int) + 1 + 1 + 1)))) (row_kin HROW3.out HMK10.out (tyQ_kin HMK10.out H)) (fun b hb => Mk.plain HMK10.out b hb (HPL.out b hb)) l1 (by omega)
          have e9 : (((r + 3) : Nat) : Int) + 1 = ((r : Int) + 1 + 1 + 1 + 1) := by omega
          rw [e9] at h9
          exact h9
        go_wp2_with fail
        refine Calls.mono HC12.out ?_
        rintro ee w12 ⟨r12, rfl, hr12, hs12, hmk⟩
        have HMK12 : Hid (Mk K wr w12) := Mk.trans HMK10.out hmk
        clear hmk y5 f6 y8 f9 y11
        go_wp2
        go_roundw
        case rel => exact ⟨i + 1, r12, by omega, by go_num, rfl, by omega, by omega, HM.out.trans HMK12.out⟩
        case measure => simp [intOf]; omega
    · have hie : i = xs.length := by omega
      subst hie
      rw [List.take_length] at hrk
      clear hm
      go_wp2
      go_ret
      exact ⟨r, rfl, hkr, by unfold lw; omega, HM.out⟩

theorem mkT_all (K : Nat → Prop) : ∀ H, MkT K H := by
  intro H
  induction H using Nat.strongRecOn with
  | _ H ih => exact mkT_of ih
set_option maxHeartbeats 1000000 in
set_option maxRecDepth 100000 in
theorem markTy_any {K : Nat → Prop} {h : Nat} (x : Tr) (cs : List Value) (w : World) (hr : tyR K w (h + 1) x cs) (hK : ∀ b, K b → b < w.heap.size ∧ PlainAt w ⟨b, 0, none⟩) (hw : wty (h + 1) x ≤ 1048576) :
    Calls Try.prog 14 #[.agg cs.toArray, .int .i64 1] w fun e w' => ∃ r : Nat, e = .returned (.int .i64 ((r : Int) + 1)) ∧ Mk K w w' := by
  obtain ⟨-, -, -, o1, c1, rfl, hsz, hf, hrow⟩ := hr
  have hB0 : Below w.heap.size w (w.alloc (.cells #[.int .i64 x.k, .string x.s, .int .i64 x.n, .slice o1 x.l.length c1] 29)) := (Below.refl _ w).alloc (Nat.le_refl _) _
  have hbx : (w.alloc (.cells #[.int .i64 x.k, .string x.s, .int .i64 x.n, .slice o1 x.l.length c1] 29)).heap[w.heap.size]? = some (.cells #[.int .i64 x.k, .string x.s, .int .i64 x.n, .slice o1 x.l.length c1] 29 (0, 0)) := heap_alloc_new w _
  have hrow' := hrow.later (R' := tyQ K (w.alloc (.cells #[.int .i64 x.k, .string x.s, .int .i64 x.n, .slice o1 x.l.length c1] 29)) h) hB0 fun t cs ht => tyQ_of h t cs (tyR_later hB0 h t cs ht)
  have hpl : ∀ b, K b → PlainAt (w.alloc (.cells #[.int .i64 x.k, .string x.s, .int .i64 x.n, .slice o1 x.l.length c1] 29)) ⟨b, 0, none⟩ := fun b hb => by
    obtain ⟨h1, cc, e, h2⟩ := hK b hb
    exact ⟨cc, e, (hB0.block b h1).trans h2⟩
  have hwt : wty (h + 1) x = x.s.size + lw (wty h) x.l := rfl
  have HC := hide (mkT_all K h x.l o1 c1 0 _ hrow' hpl hf.1 (by omega))
  have HM0 : Hid (Mk K w (w.alloc (.cells #[.int .i64 x.k, .string x.s, .int .i64 x.n, .slice o1 x.l.length c1] 29))) := Mk.later hB0
  have y3 := cell_of hbx 3
  simp only [List.getElem?_toArray, List.getElem?_cons_succ, List.getElem?_cons_zero] at y3
  clear hB0 hbx hrow' hpl hrow hK
  simp only [Int.ofNat_zero, Int.zero_add] at HC
  go_enter Try.func14, Try.ntmps14
  go_wp2_with fail
  refine HC.out.mono ?_
  rintro e w2 ⟨r, rfl, -, -, hm⟩
  have HM2 := hide (HM0.out.trans hm)
  clear hm HC
  go_wp2
  go_ret
  exact ⟨r, rfl, HM2.out⟩
end Go.Proofs.Ytncgbdbkoeiffam.Nm

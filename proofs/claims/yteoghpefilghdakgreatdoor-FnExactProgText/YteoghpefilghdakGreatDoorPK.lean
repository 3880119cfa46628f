/- The program's checks of a maker's types, of makers and of datas. -/
import Derived.Test.YteoghpefilghdakGreatDoorPI
import Derived.Test.YteoghpefilghdakGreatDoorPJ
import Derived.Test.YteoghpefilghdakGreatDoorYK
namespace Go.Proofs.YteoghpefilghdakGreatDoor
open Go.ChangeShapes Go.WideShapes Go.ChangeAt Go.RowKit

/-- What can be read lies in blocks that are there. -/
theorem row_ne {α : Type} {w : World} {g : Nat} {R R' : α → List Value → Prop} {size : Nat} {o : Option Addr} {xs : List α} (hg : w.heap.size ≤ g) (hm : RowOf AllK w R size o xs) (hR : ∀ x cs, R x cs → R' x cs) : RowOf (NeK g) w R' size o xs := by
  intro hne
  obtain ⟨b, off, e, -, hl, hc⟩ := hm hne
  refine ⟨b, off, e, (by show b ≠ g; omega), hl, fun i x hx => ?_⟩
  obtain ⟨cs, h1, h2, h3⟩ := hc i x hx
  exact ⟨cs, h1, h2, hR x cs h3⟩
theorem tyR_old {w : World} {g : Nat} (hg : w.heap.size ≤ g) : ∀ h x cs, tyR AllK w h x cs → tyR (NeK g) w h x cs := by
  intro h
  induction h with
  | zero => exact fun _ _ h => h
  | succ h ih =>
    rintro x cs ⟨e1, e2, e3, o, c, e, hs, hf, hr⟩
    exact ⟨e1, e2, e3, o, c, e, hs, hf, row_ne hg hr ih⟩
theorem argB_ty (h : Nat) (t : Tr) : argB h t = (tyB h t 1 && decide (0 + tyN h t ≤ 10)) := by
  rw [Nat.zero_add]
  exact wr_ten h t 1 (by omega)
def argsB (h : Nat) (l : List Tr) : Bool := decide (l.length ≤ 4) && l.all (argB h)
/-- A maker is right, but for its name being another one. -/
def con1 (h : Nat) (c : Tr) : Bool := ownB c.s && argsB h c.l
def consB (h : Nat) (l : List Tr) : Bool := inB l.length 1 5 && l.all (con1 h)
def data1 (h : Nat) (d : Tr) : Bool := ownB d.s && consB h d.l
def datasB (h : Nat) (l : List Tr) : Bool := decide (l.length ≤ 5) && (l.all (data1 h) && (noTwoB (l.map Tr.s) && noTwoB (consL l)))

set_option maxHeartbeats 1000000 in
set_option maxRecDepth 100000 in
theorem argsOk_any {h : Nat} (xs : List Tr) (o : Option Addr) (c : Nat) (w : World) (hl : xs.length ≤ maxLen) (hm : RowOf AllK w (tyR AllK w h) 4 o xs) :
    Calls Tryz.prog 91 #[.slice o xs.length c] w fun e w' => e = .returned (.bool (argsB h xs)) ∧ Below w.heap.size w w' := by
  have HM := hide hm
  have hl2 : xs.length ≤ 9223372036854775807 := hl
  clear hm hl
  by_cases h4 : 4 < (xs.length : Int)
  · go_enter Tryz.func91, Tryz.ntmps91
    go_wp2
    go_ret
    exact ⟨ret_bool (by unfold argsB; rw [decide_eq_false (by omega)]; rfl), Below.refl _ _⟩
  go_enter Tryz.func91, Tryz.ntmps91
  go_wp2
  go_loopw [11] (fun t wr => ∃ i : Nat, i ≤ xs.length ∧ t = .int .i64 i ∧ (xs.take i).all (argB h) = true ∧ Below w.heap.size w wr) (fun t _ => xs.length - (intOf t).toNat)
  case atStart => exact ⟨0, Nat.zero_le _, rfl, rfl, Below.refl _ _⟩
  case round =>
    obtain ⟨i, hi, rfl, hal, hbw⟩ := hrel
    have HAL := hide hal
    have HBW := hide hbw
    clear hal hbw
    by_cases hlt : i < xs.length
    · have hne : xs ≠ [] := by intro e; rw [e] at hlt; simp at hlt
      obtain ⟨x, hx⟩ : ∃ x, xs[i]? = some x := ⟨xs[i], List.getElem?_eq_getElem hlt⟩
      obtain ⟨b, off, eo, -, hbl, hcs⟩ := (HM.out.later HBW.out (tyR_later HBW.out h)) hne
      subst eo
      obtain ⟨cs, hlen, hkey, hrd⟩ := hcs i x hx
      obtain ⟨ot, ct, rfl⟩ := ty_form hrd
      have q0 := hkey 0 _ rfl
      have q1 := hkey 1 _ rfl
      have q2 := hkey 2 _ rfl
      have q3 := hkey 3 _ rfl
      rw [Nat.add_zero] at q0
      have HX := hide hx
      have HB1 : Hid (Below wr.heap.size wr ((wr.alloc (.cells #[.int .i64 x.k, .string x.s, .int .i64 x.n, .slice ot x.l.length ct] 81)).alloc (.cells #[.int .i64 0] 190))) := ((Below.refl _ wr).alloc (Nat.le_refl _) _).alloc (by simp) _
      have HC1 : Hid (TCtr ((wr.alloc (.cells #[.int .i64 x.k, .string x.s, .int .i64 x.n, .slice ot x.l.length ct] 81)).alloc (.cells #[.int .i64 0] 190)) (wr.heap.size + 1) ((0 : Nat) : Int)) := heap_alloc2_new wr _ _
      have HRD := hide (tyR_later HB1.out h _ _ (tyR_old (g := wr.heap.size + 1) (by omega) h _ _ hrd))
      clear hcs hx hne hkey hlen hrd
      have hlt2 : (i : Int) < xs.length := by omega
      cases hb : argB h x
      all_goals
        have HAB := hide hb
        clear hb
        go_wp2_with fail
        refine (tyOk_all h x _ _ (wr.heap.size + 1) 0 1 HRD.out HC1.out (by omega) (by omega) (by omega)).mono ?_
        rintro e w1 ⟨n', rfl, hc, hn, hk⟩
        rw [← argB_ty, HAB.out]
        have HB2 : Hid (Below wr.heap.size wr w1) := by
          have h2 := hk.mono (B' := wr.heap.size) HB1.out.size
          exact HB1.out.trans ⟨h2.os, h2.tape, h2.output, h2.size, fun k hk => h2.block k hk (by omega)⟩
        clear hc hn hk
        go_wp2
      · go_ret
        refine ⟨ret_bool ?_, HBW.out.trans (HB2.out.mono HBW.out.size)⟩
        unfold argsB
        rw [all_false (k := i + 1) (by rw [all_next HX.out HAL.out]; exact HAB.out), Bool.and_false]
      · go_roundw
        case rel => exact ⟨i + 1, by omega, by go_num, by rw [all_next HX.out HAL.out]; exact HAB.out, HBW.out.trans (HB2.out.mono HBW.out.size)⟩
        case measure => simp [intOf]; omega
    · go_wp2
      go_ret
      refine ⟨ret_bool ?_, HBW.out⟩
      have h9 := HAL.out
      rw [List.take_of_length_le (by omega)] at h9
      unfold argsB
      rw [h9, decide_eq_true (by omega)]
      rfl

set_option maxHeartbeats 1000000 in
set_option maxRecDepth 100000 in
theorem consOk_any {h : Nat} (xs : List Tr) (o : Option Addr) (c : Nat) (w : World) (hl : xs.length ≤ maxLen) (hm : RowOf AllK w (coR AllK w h) 2 o xs) :
    Calls Tryz.prog 62 #[.slice o xs.length c] w fun e w' => e = .returned (.bool (consB h xs)) ∧ Below w.heap.size w w' := by
  have HM := hide hm
  have hl2 : xs.length ≤ 9223372036854775807 := hl
  clear hm hl
  cases hin : inB xs.length 1 5
  · have HIN : Hid (consB h xs = false) := by show consB h xs = false; unfold consB; rw [hin]; rfl
    have hor : (xs.length : Int) < 1 ∨ (¬ (xs.length : Int) < 1 ∧ 5 < (xs.length : Int)) := by
      unfold inB at hin
      simp at hin
      omega
    clear hin
    rcases hor with ha | ⟨ha, hb⟩
    all_goals
      go_enter Tryz.func62, Tryz.ntmps62
      go_wp2
      go_ret
      exact ⟨ret_bool HIN.out.symm, Below.refl _ _⟩
  have HIN := hide hin
  have hb1 : ¬ (xs.length : Int) < 1 := by unfold inB at hin; simp at hin; omega
  have hb2 : ¬ 5 < (xs.length : Int) := by unfold inB at hin; simp at hin; omega
  clear hin
  go_enter Tryz.func62, Tryz.ntmps62
  go_wp2
  go_loopw [15] (fun t wr => ∃ i : Nat, i ≤ xs.length ∧ t = .int .i64 i ∧ (xs.take i).all (con1 h) = true ∧ Below w.heap.size w wr) (fun t _ => xs.length - (intOf t).toNat)
  case atStart => exact ⟨0, Nat.zero_le _, rfl, rfl, Below.refl _ _⟩
  case round =>
    obtain ⟨i, hi, rfl, hal, hbw⟩ := hrel
    have HAL := hide hal
    have HBW := hide hbw
    clear hal hbw
    by_cases hlt : i < xs.length
    · have hne : xs ≠ [] := by intro e; rw [e] at hlt; simp at hlt
      obtain ⟨x, hx⟩ : ∃ x, xs[i]? = some x := ⟨xs[i], List.getElem?_eq_getElem hlt⟩
      obtain ⟨b, off, eo, -, hbl, hcs⟩ := (HM.out.later HBW.out (coR_later HBW.out h)) hne
      subst eo
      obtain ⟨cs, hlen, hkey, hrd⟩ := hcs i x hx
      obtain ⟨-, -, -, -, -, ot, ct, rfl, hsc, hfc, hrc⟩ := hrd
      have q0 := hkey 0 _ rfl
      have q1 := hkey 1 _ rfl
      rw [Nat.add_zero] at q0
      have HX := hide hx
      have HSC := hide hsc
      have HFC := hide hfc
      have HA1 : Hid (Below wr.heap.size wr (wr.alloc (.cells #[.string x.s, .slice ot x.l.length ct] 79))) := (Below.refl _ wr).alloc (Nat.le_refl _) _
      have HX1 : Hid ((wr.alloc (.cells #[.string x.s, .slice ot x.l.length ct] 79)).heap[wr.heap.size]? = some (.cells #[.string x.s, .slice ot x.l.length ct] 79 (0, 0))) := heap_alloc_new wr _
      have HRC := hide (hrc.later HA1.out (tyR_later HA1.out h))
      clear hcs hx hne hkey hlen hsc hfc hrc
      have hlt2 : (i : Int) < xs.length := by omega
      cases ho : ownB x.s
      · have HO := hide ho
        clear ho
        go_wp2_with fail
        refine (ownGreat_any _ _ HSC.out).mono ?_
        rintro e w1 ⟨rfl, hb⟩
        rw [HO.out]
        have HB2 := hide (HA1.out.trans (hb.mono HA1.out.size))
        clear hb
        go_wp2
        go_ret
        refine ⟨ret_bool ?_, HBW.out.trans (HB2.out.mono HBW.out.size)⟩
        unfold consB
        rw [all_false (k := i + 1) (by rw [all_next HX.out HAL.out, con1, HO.out]; rfl), Bool.and_false]
      have HO := hide ho
      clear ho
      cases ha : argsB h x.l
      all_goals
        have HAB := hide ha
        clear ha
        go_wp2_with fail
        refine (ownGreat_any _ _ HSC.out).mono ?_
        rintro e w1 ⟨rfl, hb⟩
        rw [HO.out]
        have HB2 := hide (HA1.out.trans (hb.mono HA1.out.size))
        have HX2 := hide ((hb.block wr.heap.size (heap_lt HX1.out)).trans HX1.out)
        have HRC2 := hide (HRC.out.later hb (tyR_later hb h))
        clear hb
        have y1 := cell_of HX2.out 1
        simp only [List.getElem?_toArray, List.getElem?_cons_succ, List.getElem?_cons_zero] at y1
        go_wp2_with fail
        refine (argsOk_any x.l ot ct _ HFC.out.1 HRC2.out).mono ?_
        rintro e w2 ⟨rfl, hb⟩
        rw [HAB.out]
        have HB3 := hide (HB2.out.trans (hb.mono HB2.out.size))
        clear hb
        go_wp2
      · go_ret
        refine ⟨ret_bool ?_, HBW.out.trans (HB3.out.mono HBW.out.size)⟩
        unfold consB
        rw [all_false (k := i + 1) (by rw [all_next HX.out HAL.out, con1, HO.out, HAB.out]; rfl), Bool.and_false]
      · go_roundw
        case rel => exact ⟨i + 1, by omega, by go_num, by rw [all_next HX.out HAL.out, con1, HO.out, HAB.out]; rfl, HBW.out.trans (HB3.out.mono HBW.out.size)⟩
        case measure => simp [intOf]; omega
    · go_wp2
      go_ret
      refine ⟨ret_bool ?_, HBW.out⟩
      have h9 := HAL.out
      rw [List.take_of_length_le (by omega)] at h9
      unfold consB
      rw [h9, HIN.out]
      rfl
end Go.Proofs.YteoghpefilghdakGreatDoor

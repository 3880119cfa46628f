/- The model's IsBare. -/
import Derived.Test.YtnmofagmjcengaaQC
import Derived.Test.YtnmofagmjcengaaXF
namespace Go.Proofs.Ytnmofagmjcengaa.Br
open Go.ChangeShapes Go.WideShapes Go.ChangeAt Go.RowKit

/-- Whether no definition anywhere has names ahead or something behind. -/
structure Ibs where
  ex : Tr → Bool
  de : Tr → Bool
  al : Tr → Bool
def ibs : Nat → Ibs
  | 0 => ⟨fun _ => true, fun _ => true, fun _ => true⟩
  | h + 1 => ⟨fun e => e.l.all (ibs h).ex && (e.al.all (ibs h).al && e.ds.all (ibs h).de), fun d => d.ss.isEmpty && (d.ds.isEmpty && d.l.all (ibs h).ex), fun a => a.l.all (ibs h).ex⟩
theorem all_take {α : Type} (f : α → Bool) (xs : List α) (i : Nat) (x : α) (hx : xs[i]? = some x) : (xs.take (i + 1)).all f = ((xs.take i).all f && f x) := by
  rw [List.take_add_one, hx]
  simp
theorem all_no {α : Type} {f : α → Bool} {xs : List α} {i : Nat} {x : α} (hx : xs[i]? = some x) (h : f x = false) : xs.all f = false := by
  rw [List.all_eq_false]
  exact ⟨x, List.mem_of_getElem? hx, by rw [h]; simp⟩
def IbEx (h : Nat) : Prop := ∀ (K : Nat → Prop) (x : Tr) (cs : List Value) (w : World), (reads K w h).ex x cs → Calls Try.prog 5 #[.agg cs.toArray] w fun e w' => e = .returned (.bool ((ibs h).ex x)) ∧ Below w.heap.size w w'
def IbDs (h : Nat) : Prop := ∀ (K : Nat → Prop) (xs : List Tr) (o : Option Addr) (c : Nat) (w : World), RowOf K w (reads K w h).de 9 o xs → xs.length ≤ maxLen → Calls Try.prog 12 #[.slice o xs.length c] w fun e w' => e = .returned (.bool (xs.all (ibs h).de)) ∧ Below w.heap.size w w'

theorem ibDs_zero : IbDs 0 := by
  intro K xs o c w hr hl
  have hnil : xs = [] := Classical.byContradiction fun hne => by
    obtain ⟨b, off, -, -, -, hcs⟩ := hr hne
    obtain ⟨y, hy⟩ : ∃ y, xs[0]? = some y := by cases xs with | nil => exact absurd rfl hne | cons a r => exact ⟨a, rfl⟩
    obtain ⟨cs, -, -, h⟩ := hcs 0 y hy
    exact h.elim
  subst hnil
  go_enter Try.func12, Try.ntmps12
  go_wp2
  go_loopw [3] (fun t3 wr => t3 = .int .i64 0 ∧ wr = w) (fun _ _ => 0)
  case atStart => exact ⟨rfl, rfl⟩
  case round =>
    obtain ⟨rfl, rfl⟩ := hrel
    go_wp2
    go_ret
    exact ⟨rfl, Below.refl _ _⟩

set_option maxHeartbeats 2000000 in
set_option maxRecDepth 100000 in
theorem ibDs_step {h : Nat} (i1 : IbEx h) : IbDs (h + 1) := by
  intro K xs o c w hr hl
  have I1 := hide i1
  have HR := hide hr
  have hl2 : xs.length ≤ 9223372036854775807 := hl
  clear i1 hr hl
  go_enter Try.func12, Try.ntmps12
  go_wp2
  go_loopw [3] (fun t3 wr => ∃ i : Nat, i ≤ xs.length ∧ t3 = .int .i64 i ∧ (xs.take i).all (ibs (h + 1)).de = true ∧ Below w.heap.size w wr) (fun t3 _ => xs.length - (intOf t3).toNat)
  case atStart => exact ⟨0, Nat.zero_le _, rfl, rfl, Below.refl _ _⟩
  case round =>
    obtain ⟨i, hi, rfl, hall, hbw⟩ := hrel
    have HAL := hide hall
    have HBW := hide hbw
    clear hall hbw
    by_cases hlt : i < xs.length
    · have hne : xs ≠ [] := by intro e; rw [e] at hlt; simp at hlt
      obtain ⟨y, hy⟩ : ∃ y, xs[i]? = some y := ⟨xs[i], List.getElem?_eq_getElem hlt⟩
      obtain ⟨b, off, eo, -, hbl, hcs⟩ := (HR.out.later HBW.out (reads_later HBW.out (h + 1)).2.1) hne
      subst eo
      obtain ⟨cs, hlen, hkey, hrd⟩ := hcs i y hy
      obtain ⟨-, -, -, z, p1, g1, ce, p2, g2, hyl, rfl, -, hf1, hf2, -, hce, hrz, -⟩ := hrd
      obtain ⟨a0, a1, a2, a3, a4, a5, rfl⟩ := six hce
      have q0 := hkey 0 _ rfl
      have q1 := hkey 1 _ rfl
      have q2 := hkey 2 _ rfl
      have q3 := hkey 3 _ rfl
      have q4 := hkey 4 _ rfl
      have q5 := hkey 5 _ rfl
      have q6 := hkey 6 _ rfl
      have q7 := hkey 7 _ rfl
      have q8 := hkey 8 _ rfl
      rw [Nat.add_zero] at q0
      have HY := hide hy
      have HZ := hide hrz
      have HYL := hide hyl
      have hlt2 : (i : Int) < xs.length := by omega
      have hs2 : y.ss.length ≤ 9223372036854775807 := hf1.1
      have hd2 : y.ds.length ≤ 9223372036854775807 := hf2.1
      have HDE : Hid ((ibs (h + 1)).de y = (y.ss.isEmpty && (y.ds.isEmpty && (ibs h).ex z))) := by
        show (y.ss.isEmpty && (y.ds.isEmpty && y.l.all (ibs h).ex)) = _
        rw [HYL.out]
        simp
      clear hcs hy hne hkey hlen hrz hyl hf1 hf2
      by_cases hss : (0 : Int) < y.ss.length
      · obtain ⟨m, hm⟩ : ∃ m, y.ss.length = m + 1 := ⟨y.ss.length - 1, by omega⟩
        have HF : Hid ((ibs (h + 1)).de y = false) := by
          rw [HDE.out]
          cases hq : y.ss with
          | nil => rw [hq] at hm; simp at hm
          | cons a r => exact rfl
        rw [hm] at q1
        clear HDE
        go_wp2
        go_ret
        exact ⟨by rw [all_no HY.out HF.out]; rfl, HBW.out⟩
      have hm0 : y.ss.length = 0 := by omega
      rw [hm0] at q1
      by_cases hdd : (0 : Int) < y.ds.length
      · obtain ⟨m, hm⟩ : ∃ m, y.ds.length = m + 1 := ⟨y.ds.length - 1, by omega⟩
        have HF : Hid ((ibs (h + 1)).de y = false) := by
          rw [HDE.out]
          cases hq : y.ds with
          | nil => rw [hq] at hm; simp at hm
          | cons a r => simp; exact trivial
        rw [hm] at q8
        clear HDE
        go_wp2
        go_ret
        exact ⟨by rw [all_no HY.out HF.out]; rfl, HBW.out⟩
      have hm1 : y.ds.length = 0 := by omega
      rw [hm1] at q8
      have hse : y.ss = [] := List.length_eq_zero_iff.1 (by omega)
      have hde : y.ds = [] := List.length_eq_zero_iff.1 (by omega)
      have HD2 : Hid ((ibs (h + 1)).de y = (ibs h).ex z) := by
        rw [HDE.out, hse, hde]
        rfl
      clear hse hde HDE hm0 hm1 hss hdd
      cases hx : (ibs h).ex z
      · have HX := hide hx
        clear hx
        go_wp2_with fail
        refine (I1.out K z _ _ HZ.out).mono ?_
        rintro e w2 ⟨rfl, hb⟩
        rw [HX.out]
        have HB2 := hide (HBW.out.trans (hb.mono HBW.out.size))
        clear hb
        go_wp2
        go_ret
        exact ⟨by rw [all_no HY.out (HD2.out.trans HX.out)]; rfl, HB2.out⟩
      · have HX := hide hx
        clear hx
        go_wp2_with fail
        refine (I1.out K z _ _ HZ.out).mono ?_
        rintro e w2 ⟨rfl, hb⟩
        rw [HX.out]
        have HB2 := hide (HBW.out.trans (hb.mono HBW.out.size))
        clear hb
        go_wp2
        exact ⟨⟨i + 1, by omega, by go_num, by rw [all_take _ _ _ _ HY.out, HAL.out, HD2.out, HX.out]; rfl, HB2.out⟩, by simp [intOf]; omega⟩
    · have hlt2 : ¬ ((i : Int) < xs.length) := by omega
      go_wp2
      go_ret
      have e := HAL.out
      rw [List.take_of_length_le (by omega)] at e
      exact ⟨by rw [e]; rfl, HBW.out⟩
end Go.Proofs.Ytnmofagmjcengaa.Br

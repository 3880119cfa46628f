/- The model's NamesOf. -/
import Derived.Test.YtihjpkldefllgakGreatCB
namespace Go.Proofs.YtihjpkldefllgakGreat.Nm
open Go.ChangeShapes Go.WideShapes Go.ChangeAt Go.RowKit

def NmS (h : Nat) (xs : List Tr) (y : ByteArray) : Prop := (∃ d ∈ xs, (bnd h).de d y) ∨ (∃ d ∈ xs, (usd h).de d y)
set_option maxHeartbeats 2000000 in
set_option maxRecDepth 100000 in
theorem specNamesOf_any {K : Nat → Prop} {h : Nat} (xs : List Tr) (od : Option Addr) (nd cd : Nat) (o : Option Addr) (c : Nat) (w : World) (hx : RowOf K w (reads K w h).de 9 o xs) (hl : xs.length ≤ maxLen) (hnn : (xs.map (nmb h).de).sum ≤ 2200000) :
    Calls Tryz.prog 5 #[.agg #[.slice od nd cd, .slice o xs.length c]] w (Ans (NmS h xs) (2 * (xs.map (nmb h).de).sum) w) := by
  have ml : xs.length ≤ 9223372036854775807 := hl
  have HX := hide hx
  have HN := hide hnn
  obtain ⟨V, hV⟩ : ∃ V, w.alloc (.cells #[.slice od nd cd, .slice o xs.length c] 32) = V := ⟨_, rfl⟩
  have hb0 : Below w.heap.size w V := by rw [← hV]; exact (Below.refl _ w).alloc (Nat.le_refl _) _
  have hbox : V.heap[w.heap.size]? = some (.cells #[.slice od nd cd, .slice o xs.length c] 32 (0, 0)) := by rw [← hV]; exact heap_alloc_new w _
  have HB0 := hide hb0
  have HBX := hide hbox
  have b1 := cell_of hbox 1
  simp only [List.getElem?_toArray, List.getElem?_cons_succ, List.getElem?_cons_zero] at b1
  have HC0 := hide ((bd_all h).2 K xs o c V (hx.later hb0 fun _ _ hh => (reads_later hb0 h).2.1 _ _ hh) hl (by omega))
  clear hx hb0 hbox hl
  go_enter Tryz.func5, Tryz.ntmps5
  go_wp2_with fail
  refine Calls.mono HC0.out ?_
  rintro ee w1 ⟨v1, l1, rfl, hn1, hasc1, hmem1, hlen1, hb1⟩
  have HN1 := hide (hn1.base HB0.out.size)
  have HASC1 := hide hasc1
  have HMEM1 := hide hmem1
  have HB1 := hide (HB0.out.trans (hb1.mono HB0.out.size))
  have HX1 := hide ((hb1.block w.heap.size (heap_lt HBX.out)).trans HBX.out)
  clear hn1 hasc1 hmem1 hb1 b1
  go_wp2
  go_loopw [3, 4] (fun t3 t4 wr => ∃ (i : Nat) (l : List ByteArray), i ≤ xs.length ∧ t4 = .int .i64 i ∧ NRow w.heap.size wr t3 l ∧ Asc l ∧ (∀ y, y ∈ l ↔ ((∃ d ∈ xs, (bnd h).de d y) ∨ (∃ d ∈ xs.take i, (usd h).de d y)) ∧ y ≠ und) ∧ l.length ≤ (xs.map (nmb h).de).sum + ((xs.take i).map (nmb h).de).sum ∧ Below w.heap.size w wr ∧ wr.heap[w.heap.size]? = some (.cells #[.slice od nd cd, .slice o xs.length c] 32 (0, 0))) (fun _ t4 _ => xs.length - (intOf t4).toNat)
  case atStart => exact ⟨0, l1, Nat.zero_le _, rfl, HN1.out, HASC1.out, fun y => by rw [HMEM1.out]; simp, by simpa using hlen1, HB1.out, HX1.out⟩
  case round =>
    obtain ⟨i, l, hi, rfl, hn, hasc, hmem, hlen, hb, hbx⟩ := hrel
    have HNR := hide hn
    have HASC := hide hasc
    have HMEM := hide hmem
    have HB := hide hb
    have HBX2 := hide hbx
    have z1 := cell_of hbx 1
    simp only [List.getElem?_toArray, List.getElem?_cons_succ, List.getElem?_cons_zero] at z1
    by_cases hlt : i < xs.length
    · have hne : xs ≠ [] := by intro e; rw [e] at hlt; simp at hlt
      obtain ⟨ihE, ihD⟩ := us_all h
      have hrow := HX.out.later hb (R' := (reads K wr h).de) fun _ _ hh => (reads_later hb h).2.1 _ _ hh
      obtain ⟨b, off, eo, hkb, hblt, hcs⟩ := hrow hne
      subst eo
      obtain ⟨cs, hcl, hkey, hr⟩ := hcs i _ (List.getElem?_eq_getElem hlt)
      have hsum := sum_take_succ (nmb h).de xs i hlt
      have hle := sum_take_le (nmb h).de xs (i + 1)
      have hmt := fun y => mem_take_succ (fun d => (usd h).de d y) xs i hlt
      have hNall := HN.out
      obtain ⟨d, hd⟩ : ∃ d, xs[i] = d := ⟨_, rfl⟩
      rw [hd] at hsum hr
      simp only [hd] at hmt
      cases h with
      | zero => exact hr.elim
      | succ h =>
        obtain ⟨ihE, ihD⟩ := us_all h
        obtain ⟨d0, d1, d2, e, o1, c1, ce, o2, c2, e0, e1, e2, e3, e4, r1, e5, r2, r3⟩ := hr
        have hdn : (nmb (h + 1)).de d = 1 + d.ss.length + (nmb h).ex e + (d.ds.map (nmb h).de).sum := by
          show 1 + d.ss.length + (d.l.map (nmb h).ex).sum + (d.ds.map (nmb h).de).sum = _
          rw [e0]
          simp
        have hdb : ∀ y, (usd (h + 1)).de d y ↔ (usd h).ex e y ∨ (∃ c ∈ d.ds, (usd h).de c y) := by
          intro y
          show ((∃ c ∈ d.l, (usd h).ex c y) ∨ (∃ c ∈ d.ds, (usd h).de c y)) ↔ _
          rw [e0]
          simp
        obtain ⟨a0, a1, a2, a3, a4, a5, rfl⟩ := six e5
        subst e1
        have q2 := hkey 2 _ rfl
        have q3 := hkey 3 _ rfl
        have q4 := hkey 4 _ rfl
        have q5 := hkey 5 _ rfl
        have q6 := hkey 6 _ rfl
        have q7 := hkey 7 _ rfl
        have q8 := hkey 8 _ rfl
        obtain ⟨o5, c5, rfl, hf5, hr5⟩ := hn.rowOf
        have HR5 : Hid (∀ W, Below wr.heap.size wr W → RowOf (fun _ => True) W strR 1 o5 l) := fun W hW => hr5.frame (Stays.of hW) (fun _ _ => trivial) (fun _ _ h => h)
        have HE1 := hide (ihE K e [a0, a1, a2, a3, a4, a5] wr r2 (by omega))
        have HR3 : Hid (∀ W, Below wr.heap.size wr W → RowOf K W (reads K W h).de 9 o2 d.ds) := fun W hW => r3.later hW fun _ _ hh => (reads_later hW h).2.1 _ _ hh
        have HF2 := hide e4
        have HMT := hide hmt
        have HDB := hide hdb
        have IHD := hide ihD
        have HBL : Hid (b < wr.heap.size) := hblt
        clear hn hasc hmem hb hbx hrow hcs hne hkey hr5 hf5 hmt hdb e2 e3 e4 r1 r2 r3 e5 hkb hblt d0 d1 d2 hcl ihE ihD
        go_wp2_with fail
        refine Calls.mono HE1.out ?_
        rintro ee w4 ⟨v4, l4, rfl, hn4, hasc4, hmem4, hlen4, hb4⟩
        obtain ⟨o8, c8, rfl, -, hr8⟩ := hn4.rowOf
        have HMEM4 := hide hmem4
        have HR8 := hide hr8
        have HB4 := hide hb4
        clear hn4 hasc4 hmem4 hb4 hr8 q2 q3 q4 q5 q6 q7
        go_wp2_with fail
        refine (join_any l l4 o5 o8 c5 c8 _ (by omega) (HR5.out _ HB4.out) HR8.out HASC.out).mono ?_
        rintro ee w5 ⟨v5, l5, rfl, hn5, hasc5, hmem5, hlen5, hb5⟩
        obtain ⟨o9, c9, rfl, -, hr9⟩ := hn5.rowOf
        have HR9 : Hid (∀ W, Below w5.heap.size w5 W → RowOf (fun _ => True) W strR 1 o9 l5) := fun W hW => hr9.frame (Stays.of hW) (fun _ _ => trivial) (fun _ _ h => h)
        have HASC5 := hide hasc5
        have HMEM5 := hide hmem5
        have HB5 : Hid (Below wr.heap.size wr w5) := HB4.out.trans (hb5.mono HB4.out.size)
        have p8 := (HB5.out.cell (p := ⟨b, off + i * 9 + 8, none⟩) HBL.out).trans q8
        have zz := cell_of ((HB5.out.block w.heap.size (heap_lt HBX2.out)).trans HBX2.out) 1
        simp only [List.getElem?_toArray, List.getElem?_cons_succ, List.getElem?_cons_zero] at zz
        clear hn5 hasc5 hmem5 hb5 hr9 q8 z1
        go_wp2_with fail
        refine (IHD.out K d.ds o2 c2 _ (HR3.out _ HB5.out) HF2.out.1 (by omega)).mono ?_
        rintro ee w6 ⟨v6, l6, rfl, hn6, hasc6, hmem6, hlen6, hb6⟩
        obtain ⟨oA, cA, rfl, -, hrA⟩ := hn6.rowOf
        have HMEM6 := hide hmem6
        have HRA := hide hrA
        have HB6 := hide hb6
        clear hn6 hasc6 hmem6 hb6 hrA p8 zz
        go_wp2_with fail
        refine (join_any l5 l6 o9 oA c9 cA _ (by omega) (HR9.out _ HB6.out) HRA.out HASC5.out).mono ?_
        rintro ee w7 ⟨v7, l7, rfl, hn7, hasc7, hmem7, hlen7, hb7⟩
        have HB7 : Hid (Below wr.heap.size wr w7) := (HB5.out.trans (HB6.out.mono HB5.out.size)).trans (hb7.mono (HB5.out.trans (HB6.out.mono HB5.out.size)).size)
        have HN7 := hide (hn7.base (Nat.le_trans HB.out.size (HB5.out.trans (HB6.out.mono HB5.out.size)).size))
        have HX7 := hide ((HB7.out.block w.heap.size (heap_lt HBX2.out)).trans HBX2.out)
        have HASC7 := hide hasc7
        have HMEM7 := hide hmem7
        clear hn7 hasc7 hmem7 hb7
        go_wp2
        go_roundw
        case rel =>
          refine ⟨i + 1, l7, by omega, by go_num, HN7.out, HASC7.out, fun y => ?_, by omega, HB.out.trans (HB7.out.mono HB.out.size), HX7.out⟩
          rw [HMEM7.out, HMEM6.out, HMEM5.out, HMEM4.out, HMEM.out, HMT.out, HDB.out]
          constructor
          · rintro ((⟨h1 | h1, h2⟩ | ⟨⟨h1, -⟩, h2⟩) | ⟨⟨h1, -⟩, h2⟩)
            · exact ⟨.inl h1, h2⟩
            · exact ⟨.inr (.inl h1), h2⟩
            · exact ⟨.inr (.inr (.inl h1)), h2⟩
            · exact ⟨.inr (.inr (.inr h1)), h2⟩
          · rintro ⟨h1 | h1 | h1 | h1, h2⟩
            · exact .inl (.inl ⟨.inl h1, h2⟩)
            · exact .inl (.inl ⟨.inr h1, h2⟩)
            · exact .inl (.inr ⟨⟨h1, h2⟩, h2⟩)
            · exact .inr ⟨⟨h1, h2⟩, h2⟩
        case measure => simp [intOf]; omega
    · have hie : i = xs.length := by omega
      subst hie
      rw [List.take_length] at hlen
      have HMEMb : Hid (∀ y, y ∈ l ↔ NmS h xs y ∧ y ≠ und) := by
        have h9 := HMEM.out
        rw [List.take_length] at h9
        exact h9
      clear hn hasc hmem hb hbx
      go_wp2
      go_ret
      exact ⟨_, l, rfl, HNR.out, HASC.out, HMEMb.out, by omega, HB.out⟩
end Go.Proofs.YtihjpkldefllgakGreat.Nm

/- What is asked for, plainly; the model's l6UsedDecs. -/
import Derived.Test.YtihjpkldefllgakGreatBC
namespace Go.Proofs.YtihjpkldefllgakGreat.Nm
open Go.ChangeShapes Go.WideShapes Go.ChangeAt Go.RowKit

/-- Which names are asked for in it, `_` among them. -/
def usd : Nat → Bnds
  | 0 => ⟨fun _ _ => False, fun _ _ => False, fun _ _ => False⟩
  | h + 1 => ⟨fun e x => (e.k = 1 ∧ x = e.s) ∨ (∃ c ∈ e.l, (usd h).ex c x) ∨ (∃ a ∈ e.al, (usd h).al a x) ∨ (∃ d ∈ e.ds, (usd h).de d x),
     fun d x => (∃ c ∈ d.l, (usd h).ex c x) ∨ (∃ c ∈ d.ds, (usd h).de c x),
     fun a x => (∃ c ∈ a.l, (usd h).ex c x)⟩
def UsEx (h : Nat) : Prop := ∀ (K : Nat → Prop) (x : Tr) (cs : List Value) (w : World), (reads K w h).ex x cs → (nmb h).ex x ≤ 5000000 → Calls Tryz.prog 17 #[.agg cs.toArray] w (Ans ((usd h).ex x) ((nmb h).ex x) w)
def UsDs (h : Nat) : Prop := ∀ (K : Nat → Prop) (xs : List Tr) (o : Option Addr) (c : Nat) (w : World), RowOf K w (reads K w h).de 9 o xs → xs.length ≤ maxLen → (xs.map (nmb h).de).sum ≤ 5000000 → Calls Tryz.prog 18 #[.slice o xs.length c] w (Ans (fun y => ∃ d ∈ xs, (usd h).de d y) ((xs.map (nmb h).de).sum) w)

set_option maxHeartbeats 1000000 in
set_option maxRecDepth 100000 in
theorem usDs_of {h : Nat} (ih : ∀ h', h = h' + 1 → UsEx h' ∧ UsDs h') : UsDs h := by
  intro K xs o c w hx hl hn
  have ml : xs.length ≤ 9223372036854775807 := hl
  have HX := hide hx
  have HN := hide hn
  have IH := hide ih
  have hB0 : Below w.heap.size w (w.alloc (.cells #[] 9)) := (Below.refl _ w).alloc (Nat.le_refl _) _
  have HN0 := hide (NRow.empty w)
  have HB0 := hide hB0
  clear hx hn ih hB0 hl
  go_enter Tryz.func18, Tryz.ntmps18
  go_wp2
  go_loopw [3, 4] (fun t3 t4 wr => ∃ (i : Nat) (l : List ByteArray), i ≤ xs.length ∧ t4 = .int .i64 i ∧ NRow w.heap.size wr t3 l ∧ Asc l ∧ (∀ y, y ∈ l ↔ (∃ d ∈ xs.take i, (usd h).de d y) ∧ y ≠ und) ∧ l.length ≤ ((xs.take i).map (nmb h).de).sum ∧ Below w.heap.size w wr) (fun _ t4 _ => xs.length - (intOf t4).toNat)
  case atStart => exact ⟨0, [], Nat.zero_le _, rfl, HN0.out, List.Pairwise.nil, fun y => by simp, by simp, HB0.out⟩
  case round =>
    obtain ⟨i, l, hi, rfl, hn, hasc, hmem, hlen, hb⟩ := hrel
    have HNR := hide hn
    have HASC := hide hasc
    have HMEM := hide hmem
    have HB := hide hb
    by_cases hlt : i < xs.length
    · have hne : xs ≠ [] := by intro e; rw [e] at hlt; simp at hlt
      cases h with
      | zero =>
        obtain ⟨b, off, -, -, -, hcs⟩ := HX.out hne
        obtain ⟨cs, -, -, hr⟩ := hcs i _ (List.getElem?_eq_getElem hlt)
        exact hr.elim
      | succ h =>
        obtain ⟨ihE, ihD⟩ := IH.out h rfl
        have hrow := HX.out.later hb (R' := (reads K wr (h + 1)).de) fun _ _ hh => (reads_later hb (h + 1)).2.1 _ _ hh
        obtain ⟨b, off, eo, hkb, hblt, hcs⟩ := hrow hne
        subst eo
        obtain ⟨cs, hcl, hkey, hr⟩ := hcs i _ (List.getElem?_eq_getElem hlt)
        have hsum := sum_take_succ (nmb (h + 1)).de xs i hlt
        have hle := sum_take_le (nmb (h + 1)).de xs (i + 1)
        have hmt := fun y => mem_take_succ (fun d => (usd (h + 1)).de d y) xs i hlt
        have hNall := HN.out
        obtain ⟨d, hd⟩ : ∃ d, xs[i] = d := ⟨_, rfl⟩
        rw [hd] at hsum hr
        simp only [hd] at hmt
        obtain ⟨d0, d1, d2, e, o1, c1, ce, o2, c2, e0, e1, e2, e3, e4, r1, e5, r2, r3⟩ := hr
        have hdn : (nmb (h + 1)).de d = 1 + d.ss.length + (nmb h).ex e + (d.ds.map (nmb h).de).sum := by
          show 1 + d.ss.length + (d.l.map (nmb h).ex).sum + (d.ds.map (nmb h).de).sum = _
          rw [e0]
          simp
        have hdb : ∀ y, (usd (h + 1)).de d y ↔ (usd h).ex e y ∨ (∃ c ∈ d.ds, (usd h).de c y) := by
          intro y
          show ((∃ c ∈ d.l, (usd h).ex c y) ∨ (∃ c ∈ d.ds, (usd h).de c y)) ↔ _
          rw [e0]
          simp
        obtain ⟨a0, a1, a2, a3, a4, a5, rfl⟩ := six e5
        subst e1
        have q0 := hkey 0 _ rfl
        have q1 := hkey 1 _ rfl
        have q2 := hkey 2 _ rfl
        have q3 := hkey 3 _ rfl
        have q4 := hkey 4 _ rfl
        have q5 := hkey 5 _ rfl
        have q6 := hkey 6 _ rfl
        have q7 := hkey 7 _ rfl
        have q8 := hkey 8 _ rfl
        rw [Nat.add_zero] at q0
        obtain ⟨o5, c5, rfl, hf5, hr5⟩ := hn.rowOf
        have HLAT : Hid (∀ W, Below wr.heap.size wr W → RowOf (fun _ => True) W strR 1 o5 l ∧ RowOf (fun _ => True) W strR 1 o1 d.ss ∧ (reads K W h).ex e [a0, a1, a2, a3, a4, a5] ∧ RowOf K W (reads K W h).de 9 o2 d.ds) := fun W hW =>
          ⟨hr5.frame (Stays.of hW) (fun _ _ => trivial) (fun _ _ h => h), r1.frame (Stays.of hW) (fun _ _ => trivial) (fun _ _ h => h), (reads_later hW h).1 _ _ r2, r3.later hW fun _ _ hh => (reads_later hW h).2.1 _ _ hh⟩
        have HDW : Hid (Below wr.heap.size wr wr.drew) := (Below.refl _ wr).drew
        have hLEN : l.length + d.ss.length + 1 ≤ 10000000 := by omega
        have HMT := hide hmt
        have HDB := hide hdb
        have HF1 := hide e3
        have HF2 := hide e4
        have HSZ := hide e2
        have IHE := hide ihE
        have IHD := hide ihD
        have HBL : Hid (b < wr.heap.size) := hblt
        clear hn hasc hmem hb hrow hcs hne hkey hr5 hmt hdb e2 e3 e4 r1 r2 r3 ihE ihD d0 d1 d2 e5 hkb hcl
        have HCE : Hid (∀ W, Below wr.heap.size wr W → W.cell? ⟨b, off + i * 9 + 2, none⟩ = some a0 ∧ W.cell? ⟨b, off + i * 9 + 3, none⟩ = some a1 ∧ W.cell? ⟨b, off + i * 9 + 4, none⟩ = some a2 ∧ W.cell? ⟨b, off + i * 9 + 5, none⟩ = some a3 ∧ W.cell? ⟨b, off + i * 9 + 6, none⟩ = some a4 ∧ W.cell? ⟨b, off + i * 9 + 7, none⟩ = some a5 ∧ W.cell? ⟨b, off + i * 9 + 8, none⟩ = some (.slice o2 d.ds.length c2)) := fun W hW =>
          ⟨(hW.cell (p := ⟨b, _, none⟩) HBL.out).trans q2, (hW.cell (p := ⟨b, _, none⟩) HBL.out).trans q3, (hW.cell (p := ⟨b, _, none⟩) HBL.out).trans q4, (hW.cell (p := ⟨b, _, none⟩) HBL.out).trans q5, (hW.cell (p := ⟨b, _, none⟩) HBL.out).trans q6, (hW.cell (p := ⟨b, _, none⟩) HBL.out).trans q7, (hW.cell (p := ⟨b, _, none⟩) HBL.out).trans q8⟩
        have HE1 : Hid (∀ W, Below wr.heap.size wr W → Calls Tryz.prog 17 #[.agg #[a0, a1, a2, a3, a4, a5]] W (Ans ((usd h).ex e) ((nmb h).ex e) W)) := fun W hW => IHE.out K e [a0, a1, a2, a3, a4, a5] W (HLAT.out _ hW).2.2.1 (by omega)
        have HD1 : Hid (∀ W, Below wr.heap.size wr W → Calls Tryz.prog 18 #[.slice o2 d.ds.length c2] W (Ans (fun y => ∃ c ∈ d.ds, (usd h).de c y) ((d.ds.map (nmb h).de).sum) W)) := fun W hW => IHD.out K d.ds o2 c2 W (HLAT.out _ hW).2.2.2 HF2.out.1 (by omega)
        go_upto_region 5 with fail
        go_region_with (first
          | (go_at_call 17; (with_reducible refine Calls.mono (HE1.out _ (by first | exact HB6.out | exact HDW.out)) ?_); rintro ee w4 ⟨v4, l4, rfl, hn4, hasc4, hmem4, hlen4, hb4⟩; obtain ⟨o8, c8, rfl, -, hr8⟩ := hn4.rowOf; have HMEM4 := hide hmem4; have HB4 : Hid (Below wr.heap.size wr w4) := (by first | exact HB6.out.trans (hb4.mono HB6.out.size) | exact HDW.out.trans hb4); have HJ1 : Hid (∀ W, Below w4.heap.size w4 W → Calls Tryz.prog 16 #[.slice o5 l.length c5, .slice o8 l4.length c8] W (JoinP l l4 W)) := (fun W hW => join_any l l4 o5 o8 c5 c8 W (by omega) (HLAT.out _ (HB4.out.trans (hW.mono HB4.out.size))).1 (hr8.frame (Stays.of hW) (fun _ _ => trivial) (fun _ _ h => h) : RowOf (fun _ => True) W strR 1 o8 l4) HASC.out); obtain ⟨y2, y3, y4, y5, y6, y7, y8⟩ := HCE.out w4 HB4.out; have H44 : Hid (Below w4.heap.size w4 w4) := Below.refl _ _; (try have HR6 := hide (HRA.out w4 hb4)); clear hn4 hasc4 hmem4 hb4 hr8)
          | (go_at_call 18; (with_reducible refine Calls.mono (HD1.out _ (by first | exact HB5.out | exact HB4.out | exact HDW.out)) ?_); rintro ee w6 ⟨v6, l6, rfl, hn6, hasc6, hmem6, hlen6, hb6⟩; obtain ⟨oA, cA, rfl, -, hrA⟩ := hn6.rowOf; have HMEM6 := hide hmem6; have HB6 : Hid (Below wr.heap.size wr w6) := (by first | exact HB5.out.trans (hb6.mono HB5.out.size) | exact HB4.out.trans (hb6.mono HB4.out.size) | exact HDW.out.trans hb6); have HRA : Hid (∀ W, Below w6.heap.size w6 W → RowOf (fun _ => True) W strR 1 oA l6) := (fun W hW => hrA.frame (Stays.of hW) (fun _ _ => trivial) (fun _ _ h => h)); obtain ⟨y2, y3, y4, y5, y6, y7, y8⟩ := HCE.out w6 HB6.out; (try have H44 := hide hb6); (try have HJ2 : Hid (Calls Tryz.prog 16 #[.slice o9 l5.length c9, .slice oA l6.length cA] w6 (JoinP l5 l6 w6)) := (join_any l5 l6 o9 oA c9 cA w6 (by omega) (HR9.out _ hb6) (HRA.out _ (Below.refl _ _)) HASC5.out)); have HR6 := hide (HRA.out w6 (Below.refl _ _)); clear hn6 hasc6 hmem6 hb6 hrA)
          | (go_at_call 16; first
              | ((with_reducible refine Calls.mono HJ2.out ?_); rintro ee w7 ⟨v7, l7, rfl, hn7, hasc7, hmem7, hlen7, hb7⟩; have HB7 : Hid (Below wr.heap.size wr w7) := (by first | exact HB6.out.trans (hb7.mono HB6.out.size) | exact HB5.out.trans (hb7.mono HB5.out.size)); have HN7 : Hid (NRow w.heap.size w7 v7 l7) := (hn7.base (by first | exact Nat.le_trans HB.out.size HB6.out.size | exact Nat.le_trans HB.out.size HB5.out.size)); have HASC7 := hide hasc7; have HMEM7 := hide hmem7; clear hn7 hasc7 hmem7 hb7)
              | ((with_reducible refine Calls.mono (HJ1.out _ H44.out) ?_); rintro ee w5 ⟨v5, l5, rfl, hn5, hasc5, hmem5, hlen5, hb5⟩; obtain ⟨o9, c9, rfl, -, hr9⟩ := hn5.rowOf; have HASC5 := hide hasc5; have HMEM5 := hide hmem5; have HB5 : Hid (Below wr.heap.size wr w5) := (by first | exact HB6.out.trans (hb5.mono HB6.out.size) | exact HB4.out.trans (hb5.mono HB4.out.size)); have HR9 : Hid (∀ W, Below w5.heap.size w5 W → RowOf (fun _ => True) W strR 1 o9 l5) := (fun W hW => hr9.frame (Stays.of hW) (fun _ _ => trivial) (fun _ _ h => h)); obtain ⟨y2, y3, y4, y5, y6, y7, y8⟩ := HCE.out w5 HB5.out; (try have HJ2 : Hid (Calls Tryz.prog 16 #[.slice o9 l5.length c9, .slice oA l6.length cA] w5 (JoinP l5 l6 w5)) := (join_any l5 l6 o9 oA c9 cA w5 (by omega) (HR9.out _ (Below.refl _ _)) (HR6.out.frame (Stays.of hb5) (fun _ h => h) (fun _ _ h => h)) HASC5.out)); clear hn5 hasc5 hmem5 hb5 hr9)))
        all_goals
          clear q0 q1 q2 q3 q4 q5 q6 q7 q8 y2 y3 y4 y5 y6 y7 y8
          go_wp2
          go_roundw
          case rel =>
            refine ⟨i + 1, l7, by omega, by go_num, HN7.out, HASC7.out, fun y => ?_, by omega, HB.out.trans (HB7.out.mono HB.out.size)⟩
            rw [HMEM7.out, HMEM6.out, HMEM5.out, HMEM4.out, HMEM.out, HMT.out, HDB.out]
            constructor
            · rintro ((⟨h1, h2⟩ | ⟨⟨h1, -⟩, h2⟩) | ⟨⟨h1, -⟩, h2⟩)
              · exact ⟨.inl h1, h2⟩
              · exact ⟨.inr (.inl h1), h2⟩
              · exact ⟨.inr (.inr h1), h2⟩
            · rintro ⟨h1 | h1 | h1, h2⟩
              · exact .inl (.inl ⟨h1, h2⟩)
              · exact .inl (.inr ⟨⟨h1, h2⟩, h2⟩)
              · exact .inr ⟨⟨h1, h2⟩, h2⟩
          case measure => simp [intOf]; omega
    · have hie : i = xs.length := by omega
      subst hie
      clear hn hasc hmem hb
      go_wp2
      go_ret
      refine ⟨_, l, rfl, HNR.out, HASC.out, fun x => ?_, ?_, HB.out⟩
      · have h9 := HMEM.out x
        rw [List.take_length] at h9
        exact h9
      · rw [List.take_length] at hlen
        exact hlen
end Go.Proofs.YtihjpkldefllgakGreat.Nm

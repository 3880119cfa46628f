/- What is bound, plainly; the model's BoundOf, l6BoundOfDecs. -/
import Derived.Test.YtihjpkldefllgakGreatBB
import Derived.Test.YtihjpkldefllgakGreatXF
namespace Go.Proofs.YtihjpkldefllgakGreat.Nm
open Go.ChangeShapes Go.WideShapes Go.ChangeAt Go.RowKit

structure Bnds where
  ex : Tr → ByteArray → Prop
  de : Tr → ByteArray → Prop
  al : Tr → ByteArray → Prop
/-- Which names are bound in it, `_` among them. -/
def bnd : Nat → Bnds
  | 0 => ⟨fun _ _ => False, fun _ _ => False, fun _ _ => False⟩
  | h + 1 => ⟨fun e x => (e.k = 5 ∧ x = e.s) ∨ (∃ c ∈ e.l, (bnd h).ex c x) ∨ (∃ a ∈ e.al, (bnd h).al a x) ∨ (∃ d ∈ e.ds, (bnd h).de d x),
     fun d x => x = d.s ∨ x ∈ d.ss ∨ (∃ c ∈ d.l, (bnd h).ex c x) ∨ (∃ c ∈ d.ds, (bnd h).de c x),
     fun a x => x ∈ a.ss ∨ (∃ c ∈ a.l, (bnd h).ex c x)⟩
structure Nums where
  ex : Tr → Nat
  de : Tr → Nat
  al : Tr → Nat
/-- How many names stand in it at most. -/
def nmb : Nat → Nums
  | 0 => ⟨fun _ => 0, fun _ => 0, fun _ => 0⟩
  | h + 1 => ⟨fun e => 1 + (e.l.map (nmb h).ex).sum + (e.al.map (nmb h).al).sum + (e.ds.map (nmb h).de).sum,
     fun d => 1 + d.ss.length + (d.l.map (nmb h).ex).sum + (d.ds.map (nmb h).de).sum,
     fun a => a.ss.length + (a.l.map (nmb h).ex).sum⟩
theorem sum_take_le {α : Type} (f : α → Nat) (xs : List α) : ∀ i, ((xs.take i).map f).sum ≤ (xs.map f).sum := by
  induction xs with
  | nil => intro i; simp
  | cons x r ih =>
    intro i
    cases i with
    | zero => simp
    | succ i =>
      have := ih i
      simp only [List.take_succ_cons, List.map_cons, List.sum_cons]
      omega
theorem sum_take_succ {α : Type} (f : α → Nat) (xs : List α) (i : Nat) (hi : i < xs.length) : ((xs.take (i + 1)).map f).sum = ((xs.take i).map f).sum + f xs[i] := by
  rw [List.take_succ_eq_append_getElem hi, List.map_append, List.sum_append]
  simp
theorem mem_take_succ {α : Type} (p : α → Prop) (xs : List α) (i : Nat) (hi : i < xs.length) : (∃ d ∈ xs.take (i + 1), p d) ↔ (∃ d ∈ xs.take i, p d) ∨ p xs[i] := by
  rw [List.take_succ_eq_append_getElem hi]
  constructor
  · rintro ⟨d, hd, hp⟩
    rcases List.mem_append.1 hd with hd | hd
    · exact .inl ⟨d, hd, hp⟩
    · rw [List.mem_singleton] at hd
      exact .inr (hd ▸ hp)
  · rintro (⟨d, hd, hp⟩ | hp)
    · exact ⟨d, List.mem_append_left _ hd, hp⟩
    · exact ⟨_, List.mem_append_right _ (List.mem_singleton.2 rfl), hp⟩
/-- A call that answers a row of names: ascending, just those of which it holds, at most so many. -/
def Ans (S : ByteArray → Prop) (N : Nat) (w : World) (e : Ending) (w' : World) : Prop := ∃ v l, e = .returned v ∧ NRow w.heap.size w' v l ∧ Asc l ∧ (∀ x, x ∈ l ↔ S x ∧ x ≠ und) ∧ l.length ≤ N ∧ Below w.heap.size w w'
def BdEx (h : Nat) : Prop := ∀ (K : Nat → Prop) (x : Tr) (cs : List Value) (w : World), (reads K w h).ex x cs → (nmb h).ex x ≤ 5000000 → Calls Tryz.prog 33 #[.agg cs.toArray] w (Ans ((bnd h).ex x) ((nmb h).ex x) w)
def BdDs (h : Nat) : Prop := ∀ (K : Nat → Prop) (xs : List Tr) (o : Option Addr) (c : Nat) (w : World), RowOf K w (reads K w h).de 9 o xs → xs.length ≤ maxLen → (xs.map (nmb h).de).sum ≤ 5000000 → Calls Tryz.prog 15 #[.slice o xs.length c] w (Ans (fun y => ∃ d ∈ xs, (bnd h).de d y) ((xs.map (nmb h).de).sum) w)
theorem JoinP.ans {a b : List ByteArray} {w : World} {e : Ending} {w' : World} (h : JoinP a b w e w') : ∃ v l, e = .returned v ∧ NRow w.heap.size w' v l ∧ Asc l ∧ (∀ x, x ∈ l ↔ x ∈ a ∨ (x ∈ b ∧ x ≠ und)) ∧ l.length ≤ a.length + b.length ∧ Below w.heap.size w w' := h

set_option maxHeartbeats 1000000 in
set_option maxRecDepth 100000 in
theorem bdDs_of {h : Nat} (ih : ∀ h', h = h' + 1 → BdEx h' ∧ BdDs h') : BdDs h := by
  intro K xs o c w hx hl hn
  have ml : xs.length ≤ 9223372036854775807 := hl
  have HX := hide hx
  have HN := hide hn
  have IH := hide ih
  have hB0 : Below w.heap.size w (w.alloc (.cells #[] 9)) := (Below.refl _ w).alloc (Nat.le_refl _) _
  have HN0 := hide (NRow.empty w)
  have HB0 := hide hB0
  clear hx hn ih hB0 hl
  go_enter Tryz.func15, Tryz.ntmps15
  go_wp2
  go_loopw [3, 4] (fun t3 t4 wr => ∃ (i : Nat) (l : List ByteArray), i ≤ xs.length ∧ t4 = .int .i64 i ∧ NRow w.heap.size wr t3 l ∧ Asc l ∧ (∀ y, y ∈ l ↔ (∃ d ∈ xs.take i, (bnd h).de d y) ∧ y ≠ und) ∧ l.length ≤ ((xs.take i).map (nmb h).de).sum ∧ Below w.heap.size w wr) (fun _ t4 _ => xs.length - (intOf t4).toNat)
  case atStart => exact ⟨0, [], Nat.zero_le _, rfl, HN0.out, List.Pairwise.nil, fun y => by simp, by simp, HB0.out⟩
  case round =>
    obtain ⟨i, l, hi, rfl, hn, hasc, hmem, hlen, hb⟩ := hrel
    have HNR := hide hn
    have HASC := hide hasc
    have HMEM := hide hmem
    have HB := hide hb
    by_cases hlt : i < xs.length
    · have hne : xs ≠ [] := by intro e; rw [e] at hlt; simp at hlt
      cases h with
      | zero =>
        obtain ⟨b, off, -, -, -, hcs⟩ := HX.out hne
        obtain ⟨cs, -, -, hr⟩ := hcs i _ (List.getElem?_eq_getElem hlt)
        exact hr.elim
      | succ h =>
        obtain ⟨ihE, ihD⟩ := IH.out h rfl
        have hrow := HX.out.later hb (R' := (reads K wr (h + 1)).de) fun _ _ hh => (reads_later hb (h + 1)).2.1 _ _ hh
        obtain ⟨b, off, eo, hkb, hblt, hcs⟩ := hrow hne
        subst eo
        obtain ⟨cs, hcl, hkey, hr⟩ := hcs i _ (List.getElem?_eq_getElem hlt)
        have hsum := sum_take_succ (nmb (h + 1)).de xs i hlt
        have hle := sum_take_le (nmb (h + 1)).de xs (i + 1)
        have hmt := fun y => mem_take_succ (fun d => (bnd (h + 1)).de d y) xs i hlt
        have hNall := HN.out
        obtain ⟨d, hd⟩ : ∃ d, xs[i] = d := ⟨_, rfl⟩
        rw [hd] at hsum hr
        simp only [hd] at hmt
        obtain ⟨d0, d1, d2, e, o1, c1, ce, o2, c2, e0, e1, e2, e3, e4, r1, e5, r2, r3⟩ := hr
        have hdn : (nmb (h + 1)).de d = 1 + d.ss.length + (nmb h).ex e + (d.ds.map (nmb h).de).sum := by
          show 1 + d.ss.length + (d.l.map (nmb h).ex).sum + (d.ds.map (nmb h).de).sum = _
          rw [e0]
          simp
        have hdb : ∀ y, (bnd (h + 1)).de d y ↔ y = d.s ∨ y ∈ d.ss ∨ (bnd h).ex e y ∨ (∃ c ∈ d.ds, (bnd h).de c y) := by
          intro y
          show (y = d.s ∨ y ∈ d.ss ∨ (∃ c ∈ d.l, (bnd h).ex c y) ∨ (∃ c ∈ d.ds, (bnd h).de c y)) ↔ _
          rw [e0]
          simp
        obtain ⟨a0, a1, a2, a3, a4, a5, rfl⟩ := six e5
        subst e1
        have q0 := hkey 0 _ rfl
        have q1 := hkey 1 _ rfl
        have q2 := hkey 2 _ rfl
        have q3 := hkey 3 _ rfl
        have q4 := hkey 4 _ rfl
        have q5 := hkey 5 _ rfl
        have q6 := hkey 6 _ rfl
        have q7 := hkey 7 _ rfl
        have q8 := hkey 8 _ rfl
        rw [Nat.add_zero] at q0
        obtain ⟨o5, c5, rfl, hf5, hr5⟩ := hn.rowOf
        have HLAT : Hid (∀ W, Below wr.heap.size wr W → RowOf (fun _ => True) W strR 1 o5 l ∧ RowOf (fun _ => True) W strR 1 o1 d.ss ∧ (reads K W h).ex e [a0, a1, a2, a3, a4, a5] ∧ RowOf K W (reads K W h).de 9 o2 d.ds) := fun W hW =>
          ⟨hr5.frame (Stays.of hW) (fun _ _ => trivial) (fun _ _ h => h), r1.frame (Stays.of hW) (fun _ _ => trivial) (fun _ _ h => h), (reads_later hW h).1 _ _ r2, r3.later hW fun _ _ hh => (reads_later hW h).2.1 _ _ hh⟩
        have HDW : Hid (Below wr.heap.size wr wr.drew) := (Below.refl _ wr).drew
        have hLEN : l.length + d.ss.length + 1 ≤ 10000000 := by omega
        have HMT := hide hmt
        have HDB := hide hdb
        have HF1 := hide e3
        have HF2 := hide e4
        have HSZ := hide e2
        have IHE := hide ihE
        have IHD := hide ihD
        have HBL : Hid (b < wr.heap.size) := hblt
        clear hn hasc hmem hb hrow hcs hne hkey hr5 hmt hdb e2 e3 e4 r1 r2 r3 ihE ihD d0 d1 d2 e5 hkb hcl
        go_upto_region 5 with fail
        go_cut [3] (fun t3 W => ∃ l3, NRow wr.heap.size W t3 l3 ∧ Asc l3 ∧ (∀ y, y ∈ l3 ↔ y ∈ l ∨ ((y = d.s ∨ y ∈ d.ss) ∧ y ≠ und)) ∧ l3.length ≤ l.length + 1 + d.ss.length ∧ Below wr.heap.size wr W)
        case first =>
          go_region_with (first
            | (go_at_call 32; refine (put_any l d.s o5 c5 _ (by omega) HSZ.out (HLAT.out _ HDW.out).1 HASC.out).mono ?_; rintro ee w2 ⟨v2, l2, rfl, hn2, hasc2, hmem2, hlen2, hb2⟩; have HN2 := hide hn2; have HASC2 := hide hasc2; have HMEM2 := hide hmem2; have HB2 : Hid (Below wr.heap.size wr w2) := (Below.refl _ wr).drew.trans hb2; obtain ⟨o6, c6, rfl, -, hr6⟩ := hn2.rowOf; have HR6 := hide hr6; have q1' := (HB2.out.cell (p := ⟨b, off + i * 9 + 1, none⟩) HBL.out).trans q1; clear hn2 hasc2 hmem2 hb2 hr6)
            | (go_at_call 16; refine (join_any l2 d.ss o6 o1 c6 c1 _ (by omega) HR6.out (HLAT.out _ HB2.out).2.1 HASC2.out).mono ?_; rintro ee w3 ⟨v3, l3, rfl, hn3, hasc3, hmem3, hlen3, hb3⟩; have HN3 := hide (hn3.base HB2.out.size); have HASC3 := hide hasc3; have HMEM3 := hide hmem3; have HB3 : Hid (Below wr.heap.size wr w3) := HB2.out.trans (hb3.mono HB2.out.size); obtain ⟨o7, c7, rfl, -, hr7⟩ := hn3.rowOf; have HR7 := hide hr7; clear hn3 hasc3 hmem3 hb3 hr7))
          all_goals
            go_wp2_with fail
            go_meet
            case rel =>
              refine ⟨l3, HN3.out, HASC3.out, fun y => ?_, by omega, HB3.out⟩
              rw [HMEM3.out, HMEM2.out]
              constructor
              · rintro ((h | ⟨h1, h2⟩) | ⟨h1, h2⟩)
                · exact .inl h
                · exact .inr ⟨.inl h1, h1 ▸ h2⟩
                · exact .inr ⟨.inr h1, h2⟩
              · rintro (h | ⟨h1 | h1, h2⟩)
                · exact .inl (.inl h)
                · exact .inl (.inr ⟨h1, h1 ▸ h2⟩)
                · exact .inr ⟨h1, h2⟩
        case rest =>
          obtain ⟨l3, hn3, hasc3, hmem3, hlen3, hb3⟩ := hcut
          generalize wc = w3 at hn3 hb3 ⊢
          obtain ⟨o7, c7, hv7, -, hr7⟩ := hn3.rowOf
          subst hv7
          have HR7 : Hid (∀ W, Below w3.heap.size w3 W → RowOf (fun _ => True) W strR 1 o7 l3) := fun W hW => hr7.frame (Stays.of hW) (fun _ _ => trivial) (fun _ _ h => h)
          have HASC3 := hide hasc3
          have HMEM3 := hide hmem3
          have HB3 := hide hb3
          have p2 := (hb3.cell (p := ⟨b, off + i * 9 + 2, none⟩) HBL.out).trans q2
          have p3 := (hb3.cell (p := ⟨b, off + i * 9 + 3, none⟩) HBL.out).trans q3
          have p4 := (hb3.cell (p := ⟨b, off + i * 9 + 4, none⟩) HBL.out).trans q4
          have p5 := (hb3.cell (p := ⟨b, off + i * 9 + 5, none⟩) HBL.out).trans q5
          have p6 := (hb3.cell (p := ⟨b, off + i * 9 + 6, none⟩) HBL.out).trans q6
          have p7 := (hb3.cell (p := ⟨b, off + i * 9 + 7, none⟩) HBL.out).trans q7
          clear hn3 hasc3 hmem3 hb3 hr7 q0 q1 q2 q3 q4 q5 q6 q7
          go_wp2_with fail
          refine (IHE.out K e _ _ (HLAT.out _ HB3.out).2.2.1 (by omega)).mono ?_
          rintro ee w4 ⟨v4, l4, rfl, hn4, hasc4, hmem4, hlen4, hb4⟩
          obtain ⟨o8, c8, rfl, -, hr8⟩ := hn4.rowOf
          have HMEM4 := hide hmem4
          have HR8 := hide hr8
          have HB4 := hide hb4
          clear hn4 hasc4 hmem4 hb4 hr8 p2 p3 p4 p5 p6 p7
          go_wp2_with fail
          refine (join_any l3 l4 o7 o8 c7 c8 _ (by omega) (HR7.out _ HB4.out) HR8.out HASC3.out).mono ?_
          rintro ee w5 ⟨v5, l5, rfl, hn5, hasc5, hmem5, hlen5, hb5⟩
          obtain ⟨o9, c9, rfl, -, hr9⟩ := hn5.rowOf
          have HR9 : Hid (∀ W, Below w5.heap.size w5 W → RowOf (fun _ => True) W strR 1 o9 l5) := fun W hW => hr9.frame (Stays.of hW) (fun _ _ => trivial) (fun _ _ h => h)
          have HASC5 := hide hasc5
          have HMEM5 := hide hmem5
          have HB5 : Hid (Below wr.heap.size wr w5) := (HB3.out.trans (HB4.out.mono HB3.out.size)).trans (hb5.mono (HB3.out.trans (HB4.out.mono HB3.out.size)).size)
          have p8 := (HB5.out.cell (p := ⟨b, off + i * 9 + 8, none⟩) HBL.out).trans q8
          clear hn5 hasc5 hmem5 hb5 hr9 q8
          go_wp2_with fail
          refine (IHD.out K d.ds o2 c2 _ (HLAT.out _ HB5.out).2.2.2 HF2.out.1 (by omega)).mono ?_
          rintro ee w6 ⟨v6, l6, rfl, hn6, hasc6, hmem6, hlen6, hb6⟩
          obtain ⟨oA, cA, rfl, -, hrA⟩ := hn6.rowOf
          have HMEM6 := hide hmem6
          have HRA := hide hrA
          have HB6 := hide hb6
          clear hn6 hasc6 hmem6 hb6 hrA p8
          go_wp2_with fail
          refine (join_any l5 l6 o9 oA c9 cA _ (by omega) (HR9.out _ HB6.out) HRA.out HASC5.out).mono ?_
          rintro ee w7 ⟨v7, l7, rfl, hn7, hasc7, hmem7, hlen7, hb7⟩
          have HB7 : Hid (Below wr.heap.size wr w7) := (HB5.out.trans (HB6.out.mono HB5.out.size)).trans (hb7.mono (HB5.out.trans (HB6.out.mono HB5.out.size)).size)
          have HN7 := hide (hn7.base (Nat.le_trans HB.out.size (HB5.out.trans (HB6.out.mono HB5.out.size)).size))
          have HASC7 := hide hasc7
          have HMEM7 := hide hmem7
          clear hn7 hasc7 hmem7 hb7
          go_wp2
          go_roundw
          case rel =>
            refine ⟨i + 1, l7, by omega, by go_num, HN7.out, HASC7.out, fun y => ?_, by omega, HB.out.trans (HB7.out.mono HB.out.size)⟩
            rw [HMEM7.out, HMEM6.out, HMEM5.out, HMEM4.out, HMEM3.out, HMEM.out, HMT.out, HDB.out]
            constructor
            · rintro (((⟨h1, h2⟩ | ⟨h1, h2⟩) | ⟨⟨h1, -⟩, h2⟩) | ⟨⟨h1, -⟩, h2⟩)
              · exact ⟨.inl h1, h2⟩
              · exact ⟨.inr (h1.imp id .inl), h2⟩
              · exact ⟨.inr (.inr (.inr (.inl h1))), h2⟩
              · exact ⟨.inr (.inr (.inr (.inr h1))), h2⟩
            · rintro ⟨h1 | h1 | h1 | h1 | h1, h2⟩
              · exact .inl (.inl (.inl ⟨h1, h2⟩))
              · exact .inl (.inl (.inr ⟨.inl h1, h2⟩))
              · exact .inl (.inl (.inr ⟨.inr h1, h2⟩))
              · exact .inl (.inr ⟨⟨h1, h2⟩, h2⟩)
              · exact .inr ⟨⟨h1, h2⟩, h2⟩
          case measure => simp [intOf]; omega
    · have hie : i = xs.length := by omega
      subst hie
      clear hn hasc hmem hb
      go_wp2
      go_ret
      refine ⟨_, l, rfl, HNR.out, HASC.out, fun x => ?_, ?_, HB.out⟩
      · have h9 := HMEM.out x
        rw [List.take_length] at h9
        exact h9
      · rw [List.take_length] at hlen
        exact hlen
end Go.Proofs.YtihjpkldefllgakGreat.Nm

/- What the law of NamesOf needs: marks of a program, both sides at a program. -/
import Derived.Test.YtihjpkldefllgakGreatCS
import Derived.Test.YtihjpkldefllgakGreatCR
import Derived.Test.YtihjpkldefllgakGreatCC
namespace Go.Proofs.YtihjpkldefllgakGreat.Nm
open Go.ChangeShapes Go.WideShapes Go.ChangeAt Go.RowKit

theorem row_in {α : Type} {K : Nat → Prop} {w : World} {R R' : α → List Value → Prop} {sz : Nat} {o : Option Addr} {xs : List α} (hr : RowOf K w R sz o xs) (hR : ∀ x cs, R x cs → R' x cs) : RowOf (fun b => K b ∧ b < w.heap.size) w R' sz o xs := fun hne => by
  obtain ⟨b, off, e, hk, hl, hc⟩ := hr hne
  exact ⟨b, off, e, ⟨hk, hl⟩, hl, fun i x hx => by obtain ⟨cs, h1, h2, h3⟩ := hc i x hx; exact ⟨cs, h1, h2, hR x cs h3⟩⟩
theorem tyR_in {K : Nat → Prop} (w : World) : ∀ h x cs, tyR K w h x cs → tyR (fun b => K b ∧ b < w.heap.size) w h x cs := by
  intro h
  induction h with
  | zero => exact fun _ _ h => h
  | succ h ih =>
    intro x cs hr
    obtain ⟨a1, a2, a3, o, c, e1, e2, e3, r⟩ := hr
    exact ⟨a1, a2, a3, o, c, e1, e2, e3, row_in r ih⟩
theorem nlR_in {K : Nat → Prop} (w : World) {R R' : Tr → List Value → Prop} {n : Nat} (hR : ∀ x cs, R x cs → R' x cs) : ∀ x cs, nlR K w R n x cs → nlR (fun b => K b ∧ b < w.heap.size) w R' n x cs := by
  intro x cs hr
  obtain ⟨a1, a2, a3, a4, a5, o, c, e1, e2, e3, r⟩ := hr
  exact ⟨a1, a2, a3, a4, a5, o, c, e1, e2, e3, row_in r hR⟩
theorem prR_in {K : Nat → Prop} (w : World) (h : Nat) : ∀ x cs, prR K w h x cs → prR (fun b => K b ∧ b < w.heap.size) w h x cs := by
  intro x cs hr
  obtain ⟨a1, a2, a3, a4, a5, o1, c1, o2, c2, e1, e2, e3, r1, r2⟩ := hr
  exact ⟨a1, a2, a3, a4, a5, o1, c1, o2, c2, e1, e2, e3, row_in r1 (nlR_in w (nlR_in w (tyR_in w h))), row_in r2 (reads_in w h).2.1⟩
theorem box_cells2 {w : World} {b : Nat} {c0 c1 : Value} {ty : TypeId} (h : w.heap[b]? = some (.cells #[c0, c1] ty (0, 0))) : w.cell? ⟨b, 0, none⟩ = some c0 ∧ w.cell? ⟨b, 1, none⟩ = some c1 := ⟨cell_of h 0, cell_of h 1⟩
set_option maxHeartbeats 1000000 in
set_option maxRecDepth 100000 in
theorem markProg_any {K : Nat → Prop} {h : Nat} (x : Tr) (cs : List Value) (w : World) (hr : prR K w h x cs) (hK : ∀ b, K b → b < w.heap.size ∧ PlainAt w ⟨b, 0, none⟩) (hw : wpr h x ≤ 1048576) :
    Calls Tryz.prog 10 #[.agg cs.toArray, .int .i64 1] w fun e w' => ∃ r : Nat, e = .returned (.int .i64 ((r : Int) + 1)) ∧ r ≤ 4800000 ∧ Mk K w w' := by
  obtain ⟨-, -, -, -, -, p1, d1, p2, d2, rfl, f1, f2, q1, q2⟩ := hr
  have r1 : RowOf K w (daQ K w h) 2 p1 x.l := q1.frame (Stays.refl _ _) (fun _ h => h) (daQ_of h)
  have r2 : RowOf K w (shp K w h).de 9 p2 x.ds := q2.frame (Stays.refl _ _) (fun _ h => h) (shp_of h).2.1
  have hwx : wpr h x = lw (wda h) x.l + lw (wts h).de x.ds := rfl
  have iG := mkG_all K h
  obtain ⟨-, iD, -⟩ := mk_all K h
  obtain ⟨V, hV⟩ : ∃ V, w.alloc (.cells #[.slice p1 x.l.length d1, .slice p2 x.ds.length d2] 32) = V := ⟨_, rfl⟩
  have hb0 : Below w.heap.size w V := by rw [← hV]; exact (Below.refl _ w).alloc (Nat.le_refl _) _
  have hsV : V.heap.size = w.heap.size + 1 := by rw [← hV]; simp
  have hbox : V.heap[w.heap.size]? = some (.cells #[.slice p1 x.l.length d1, .slice p2 x.ds.length d2] 32 (0, 0)) := by rw [← hV]; exact heap_alloc_new w _
  have hnK : ¬ K w.heap.size := fun e => by have := (hK _ e).1; omega
  have HPW : Hid (∀ W, Mk K V W → ∀ b, K b → PlainAt W ⟨b, 0, none⟩) := fun W hW b hb => hW.plain b hb (by
    obtain ⟨h1, c, e, h2⟩ := hK b hb
    exact ⟨c, e, (hb0.block b h1).trans h2⟩)
  have HBX : Hid (∀ W, Mk K V W → W.heap[w.heap.size]? = some (.cells #[.slice p1 x.l.length d1, .slice p2 x.ds.length d2] 32 (0, 0))) := fun W hW => (hW.keep.block _ ⟨hnK, by omega⟩).trans hbox
  have HM0 : Hid (Mk K w V) := Mk.later hb0
  have HR2 := hide r2
  obtain ⟨y0, -⟩ := box_cells2 hbox
  have HC1 : Hid (Calls Tryz.prog 27 #[.slice p1 x.l.length d1, .int .i64 1] V (MkP K 0 (4 * lw (wda h) x.l) V)) := iG x.l p1 d1 0 V (row_kin r1 HM0.out (daQ_kin HM0.out h)) (HPW.out V (Mk.refl _ _)) f1.1 (by omega)
  have HID := hide iD
  have HF2 := hide f2.1
  clear hK q1 q2 r1 r2 hb0 hbox iG iD hnK f1 f2
  go_enter Tryz.func10, Tryz.ntmps10
  go_wp2_with fail
  refine Calls.mono HC1.out ?_
  rintro e w1 ⟨r1, rfl, ha1, hb1, hm1⟩
  have HM1 := hide hm1
  obtain ⟨-, z1⟩ := box_cells2 (HBX.out w1 hm1)
  have HC2 := hide (HID.out x.ds p2 d2 r1 w1 ((row_shp (HM0.out.trans hm1) h).2.1 HR2.out) (HPW.out w1 hm1) HF2.out (by omega))
  clear hm1 y0
  go_wp2_with fail
  refine Calls.mono HC2.out ?_
  rintro e w2 ⟨r2, rfl, ha2, hb2, hm2⟩
  have HM2 := hide (HM0.out.trans (HM1.out.trans hm2))
  clear hm2 z1
  go_wp2
  go_ret
  exact ⟨r2, rfl, by omega, HM2.out⟩
theorem nm_bth (h : Nat) (xs : List Tr) (y : ByteArray) : NmS h xs y ↔ ∃ d ∈ xs, (bth h).de d y := by
  unfold NmS
  constructor
  · rintro (⟨d, hd, h1⟩ | ⟨d, hd, h1⟩)
    · exact ⟨d, hd, ((bth_iff h).2.1 d y).2 (.inl h1)⟩
    · exact ⟨d, hd, ((bth_iff h).2.1 d y).2 (.inr h1)⟩
  · rintro ⟨d, hd, h1⟩
    rcases ((bth_iff h).2.1 d y).1 h1 with h2 | h2
    · exact .inl ⟨d, hd, h2⟩
    · exact .inr ⟨d, hd, h2⟩
theorem pr_sizes {K : Nat → Prop} {w : World} {h : Nat} {x : Tr} {cs : List Value} (hr : prR K w h x cs) (hw : wpr h x ≤ 1048576) : (x.ds.map (nmb h).de).sum ≤ 2200000 ∧ (x.ds.map (wgt h).de).sum ≤ 5000000 ∧ x.ds.length ≤ 5000000 := by
  obtain ⟨-, -, -, -, -, o1, c1, o2, c2, -, -, -, -, r2⟩ := hr
  have hwx : wpr h x = lw (wda h) x.l + lw (wts h).de x.ds := rfl
  have hd := (sizes (K := K) (w := w) h).2.1
  have s1 := sum_lin (nmb h).de (wts h).de 2 2 x.ds (fun d hm => by obtain ⟨cs, hr⟩ := row_all r2 d hm; exact (hd d cs hr).1) (by omega)
  have s2 := sum_lin (wgt h).de (wts h).de 3 4 x.ds (fun d hm => by obtain ⟨cs, hr⟩ := row_all r2 d hm; exact (hd d cs hr).2) (by omega)
  have s3 : x.ds.length ≤ lw (wts h).de x.ds := by unfold lw; omega
  omega
theorem specNames_pr {K : Nat → Prop} {w : World} {h : Nat} {x : Tr} {cs : List Value} (hr : prR K w h x cs) (hn : (x.ds.map (nmb h).de).sum ≤ 2200000) :
    Calls Tryz.prog 5 #[.agg cs.toArray] w (Ans (NmS h x.ds) (2 * (x.ds.map (nmb h).de).sum) w) := by
  obtain ⟨-, -, -, -, -, o1, c1, o2, c2, rfl, -, f2, -, r2⟩ := hr
  exact specNamesOf_any x.ds o1 x.l.length c1 o2 c2 w r2 f2.1 hn
theorem implNames_pr {K0 : Nat → Prop} {w : World} {h : Nat} {x : Tr} {cs : List Value} (hr : prR K0 w h x cs) (hp : ∀ b, K0 b → b < w.heap.size ∧ PlainAt w ⟨b, 0, none⟩) (hT : (x.ds.map (wgt h).de).sum ≤ 5000000) (hl : x.ds.length ≤ 5000000) (l1 : List ByteArray) (hl1 : ∀ y, NmS h x.ds y ∧ y ≠ und → y ∈ l1) (hlen : l1.length ≤ 10000000) (hsz : ∀ y ∈ l1, y.size ≤ maxLen) :
    Calls Tryz.prog 7 #[.agg cs.toArray] w fun e w' => ∃ v l, e = .returned v ∧ NRow w.heap.size w' v l ∧ Asc l ∧ (∀ y, y ∈ l ↔ NmS h x.ds y ∧ y ≠ und) ∧ Below w.heap.size w w' := by
  obtain ⟨-, -, -, -, -, o1, c1, o2, c2, rfl, -, -, -, r2⟩ := hr
  refine (implNamesOf_any x.ds o1 x.l.length c1 o2 c2 r2 hp hT hl l1 (fun y hy => hl1 y ⟨(nm_bth h x.ds y).2 hy.1, hy.2⟩) hlen hsz).mono ?_
  rintro e w' ⟨v, l, h1, h2, h3, h4, h5⟩
  exact ⟨v, l, h1, h2, h3, fun y => by rw [h4 y, nm_bth], h5⟩
end Go.Proofs.YtihjpkldefllgakGreat.Nm

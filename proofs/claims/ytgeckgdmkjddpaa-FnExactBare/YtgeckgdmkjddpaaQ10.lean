/- Made of RNi, RNl, RNm, JG. -/
import Derived.Test.YtgeckgdmkjddpaaQ09
import Derived.Test.YtgeckgdmkjddpaaQ05
import Derived.Test.YtgeckgdmkjddpaaJF
import Derived.Test.YtgeckgdmkjddpaaQ04
namespace Go.Proofs.Ytgeckgdmkjddpaa.Mh
open Go.ChangeShapes Go.WideShapes Go.ChangeAt Go.RowKit
open Rd (RowS seps sp strS InR TreeT Row All3 ownL)
set_option linter.unusedVariables false

theorem flat_nd : ∀ (L : List (List Nat)), L.flatten.Nodup → ∀ (i : Nat) (a : List Nat), L[i]? = some a → a.Nodup := by
  intro L
  induction L with
  | nil => intro _ i a h; simp at h
  | cons l L ih =>
    intro h i a hi
    rw [List.flatten_cons] at h
    obtain ⟨h1, h2, h3⟩ := List.nodup_append.1 h
    cases i with
    | zero => cases hi; exact h1
    | succ i => exact ih h2 i a (by simpa using hi)
theorem flat_dj : ∀ (L : List (List Nat)), L.flatten.Nodup → ∀ (i j : Nat) (a b : List Nat) (x : Nat), i ≠ j → L[i]? = some a → L[j]? = some b → x ∈ a → x ∈ b → False := by
  intro L
  induction L with
  | nil => intro _ i j a b x _ h; simp at h
  | cons l L ih =>
    intro h i j a b x hij hi hj ha hb
    rw [List.flatten_cons] at h
    obtain ⟨h1, h2, h3⟩ := List.nodup_append.1 h
    cases i with
    | zero =>
      cases hi
      cases j with
      | zero => exact hij rfl
      | succ j => exact h3 x ha x (List.mem_flatten.2 ⟨b, List.mem_of_getElem? (by simpa using hj), hb⟩) rfl
    | succ i =>
      cases j with
      | zero =>
        cases hj
        exact h3 x hb x (List.mem_flatten.2 ⟨a, List.mem_of_getElem? (by simpa using hi), ha⟩) rfl
      | succ j => exact ih h2 i j a b x (by omega) (by simpa using hi) (by simpa using hj) ha hb
theorem sumQ_map {α : Type} (f : α → Nat) (xs : List α) : ∀ n, n ≤ xs.length → sumQ (fun i => ((xs[i]?).map f).getD 0) n = ((xs.take n).map f).sum := by
  intro n
  induction n with
  | zero => intro _; rfl
  | succ n ih =>
    intro hn
    have h1 := ih (by omega)
    show sumQ _ n + ((xs[n]?).map f).getD 0 = _
    rw [h1, List.take_succ_eq_append_getElem (by omega), List.getElem?_eq_getElem (by omega), List.map_append, List.sum_append]
    simp only [Option.map_some, Option.getD_some, List.map_cons, List.map_nil, List.sum_cons, List.sum_nil, Nat.add_zero]
theorem RowS.sr {α : Type} {w : World} {R : α → List Value → List Nat → Prop} {Rs : Nat → Nat → (Nat → Prop) → Nat → Prop} {E : TypeId} {sz : Nat} {v : Value} {xs : List α} {bs : List Nat} (f : α → Nat) (h : RowS w R E sz v xs bs) (hn : bs.Nodup) (hR : ∀ x cs b g p, R x cs b → b.Nodup → (∀ j u, cs[j]? = some u → w.cell? ⟨g, p + j, none⟩ = some u) → Rs g p (fun y => y ∈ b) (f x)) : SR sz Rs w (fun y => y ∈ bs) v ((xs.map f).sum) := by
  obtain ⟨o, cap, e, hf⟩ := h.form
  obtain ⟨h0, css, bss, h1, h2, rfl⟩ := h
  refine ⟨o, xs.length, cap, e, hf.1, fun hpos => ?_⟩
  have hne2 : css ≠ [] := fun e2 => by
    have := h2.len.1
    rw [e2] at this
    simp at this
    omega
  obtain ⟨g, cap2, e3, hg, hc⟩ := h1.cell hne2
  have e3' := e3
  rw [e] at e3
  simp only [Value.slice.injEq] at e3
  obtain ⟨n1, n2, n3⟩ := List.nodup_append.1 hn
  obtain ⟨-, cc, hpl⟩ := h1.lt g hg
  refine ⟨g, 0, fun i y => y ∈ (bss[i]?).getD [], fun i => ((xs[i]?).map f).getD 0, e3.1, List.mem_append_left _ hg, ⟨cc, E, hpl⟩, fun i hi => ?_, fun i y hi hy => ?_, fun i j hi hj hij y h5 h6 => ?_, ?_⟩
  · obtain ⟨b, c2, e1, e2, e4⟩ := h2.get i _ (List.getElem?_eq_getElem hi)
    have key := hR _ b c2 g (0 + i * sz) e4 (flat_nd bss n2 i c2 e2) fun j u hu => by
      rw [Nat.zero_add]
      exact hc i b j u e1 hu
    show Rs g (0 + i * sz) (fun y => y ∈ (bss[i]?).getD []) (((xs[i]?).map f).getD 0)
    rw [e2, List.getElem?_eq_getElem hi]
    exact key
  · obtain ⟨b, c2, e1, e2, e4⟩ := h2.get i _ (List.getElem?_eq_getElem hi)
    have hy2 : y ∈ c2 := by
      have hy3 : y ∈ (bss[i]?).getD [] := hy
      rw [e2] at hy3
      exact hy3
    have hfl : y ∈ bss.flatten := List.mem_flatten.2 ⟨c2, List.mem_of_getElem? e2, hy2⟩
    exact ⟨List.mem_append_right _ hfl, fun e9 => n3 g hg y hfl e9.symm⟩
  · obtain ⟨-, c2, -, e2, -⟩ := h2.get i _ (List.getElem?_eq_getElem hi)
    obtain ⟨-, c3, -, e4, -⟩ := h2.get j _ (List.getElem?_eq_getElem hj)
    have h5' : y ∈ (bss[i]?).getD [] := h5
    have h6' : y ∈ (bss[j]?).getD [] := h6
    rw [e2] at h5'
    rw [e4] at h6'
    exact flat_dj bss n2 i j c2 c3 y hij e2 e4 h5' h6'
  · rw [sumQ_map f xs xs.length (Nat.le_refl _), List.take_length]
    exact Nat.le_refl _
structure Mws where
  ex : Tr → Nat
  de : Tr → Nat
  al : Tr → Nat
/-- How many marks a tree bears, up to a height. -/
def mws : Nat → Mws
  | 0 => ⟨fun _ => 0, fun _ => 0, fun _ => 0⟩
  | h + 1 => ⟨fun e => 3 + (e.l.map (mws h).ex).sum + (e.ds.map (mws h).de).sum + (e.al.map (mws h).al).sum, fun d => 1 + (d.ss.map fun _ => 1).sum + (d.l.map (mws h).ex).sum + (d.ds.map (mws h).de).sum, fun a => 1 + (a.ss.map fun _ => 1).sum + (a.l.map (mws h).ex).sum⟩
theorem strS_sr {w : World} (x : ByteArray) (cs : List Value) (b : List Nat) (g p : Nat) (h : strS x cs b) (hb : b.Nodup) (hc : ∀ j u, cs[j]? = some u → w.cell? ⟨g, p + j, none⟩ = some u) : strB w g p (fun y => y ∈ b) ((fun _ => 1) x) := by
  obtain ⟨rfl, -, -⟩ := h
  exact ⟨⟨x, hc 0 _ rfl⟩, Nat.le_refl _⟩
theorem seps_sh {w : World} : ∀ h, (∀ e cs b g p, (seps w h).ex e cs b → b.Nodup → (∀ j u, cs[j]? = some u → w.cell? ⟨g, p + j, none⟩ = some u) → (sh w h).ex g p (fun y => y ∈ b) ((mws h).ex e)) ∧ (∀ e cs b g p, (seps w h).de e cs b → b.Nodup → (∀ j u, cs[j]? = some u → w.cell? ⟨g, p + j, none⟩ = some u) → (sh w h).de g p (fun y => y ∈ b) ((mws h).de e)) ∧ (∀ e cs b g p, (seps w h).al e cs b → b.Nodup → (∀ j u, cs[j]? = some u → w.cell? ⟨g, p + j, none⟩ = some u) → (sh w h).al g p (fun y => y ∈ b) ((mws h).al e)) := by
  intro h
  induction h with
  | zero => exact ⟨fun _ _ _ _ _ h _ _ => h.elim, fun _ _ _ _ _ h _ _ => h.elim, fun _ _ _ _ _ h _ _ => h.elim⟩
  | succ h ih =>
    obtain ⟨i1, i2, i3⟩ := ih
    refine ⟨fun e cs b g p hx hn hc => ?_, fun e cs b g p hx hn hc => ?_, fun e cs b g p hx hn hc => ?_⟩
    · obtain ⟨e0, e1, v1, v2, v3, b1, b2, b3, rfl, rfl, r1, r2, r3⟩ := hx
      obtain ⟨n12, n3, n4⟩ := List.nodup_append.1 hn
      obtain ⟨n1, n2, n5⟩ := List.nodup_append.1 n12
      exact ⟨_, _, _, v1, v2, v3, (fun y => y ∈ b1), (fun y => y ∈ b2), (fun y => y ∈ b3), _, _, _, hc 0 _ rfl, hc 1 _ rfl, hc 2 _ rfl, hc 3 _ rfl, hc 4 _ rfl, hc 5 _ rfl, RowS.sr (mws h).ex r1 n1 i1, RowS.sr (mws h).de r2 n2 i2, RowS.sr (mws h).al r3 n3 i3, fun x hx => by simpa [or_assoc] using hx, fun x h1 h2 => n5 x h1 x h2 rfl, fun x h1 h2 => n4 x (List.mem_append_left _ h1) x h2 rfl, fun x h1 h2 => n4 x (List.mem_append_right _ h1) x h2 rfl, Nat.le_refl _⟩
    · obtain ⟨d0, d1, d2, d3, e, v1, ce, v2, b1, b2, b3, d4, rfl, rfl, r1, r2, r3⟩ := hx
      obtain ⟨n12, n3, n4⟩ := List.nodup_append.1 hn
      obtain ⟨n1, n2, n5⟩ := List.nodup_append.1 n12
      have hl : ce.length = 6 := by
        cases h with
        | zero => exact r2.elim
        | succ h => obtain ⟨-, -, _, _, _, _, _, _, rfl, -⟩ := r2; rfl
      refine ⟨_, v1, v2, (fun y => y ∈ b1), (fun y => y ∈ b2), (fun y => y ∈ b3), _, _, _, hc 0 _ rfl, hc 1 _ rfl, hc 8 _ ?_, RowS.sr (fun _ => 1) r1 n1 strS_sr, i1 e ce b2 g (p + 2) r2 n2 fun j u hu => ?_, RowS.sr (mws h).de r3 n3 i2, fun x hx => by simpa [or_assoc] using hx, fun x h1 h2 => n5 x h1 x h2 rfl, fun x h1 h2 => n4 x (List.mem_append_left _ h1) x h2 rfl, fun x h1 h2 => n4 x (List.mem_append_right _ h1) x h2 rfl, ?_⟩
      · rw [List.getElem?_append_right (by simp [hl])]
        simp [hl]
      · have hj := (List.getElem?_eq_some_iff.1 hu).1
        have := hc (2 + j) u (by
          rw [List.getElem?_append_left (by simp [hl]; omega), List.getElem?_append_right (by simp)]
          simpa using hu)
        rw [← Nat.add_assoc] at this
        exact this
      · show _ ≤ 1 + _ + (List.map (mws h).ex _).sum + _
        rw [d4]
        simp
    · obtain ⟨d0, d1, d2, d2', d3, e, v1, ce, b1, b2, d4, rfl, rfl, r1, r2⟩ := hx
      obtain ⟨n1, n2, n5⟩ := List.nodup_append.1 hn
      refine ⟨_, v1, (fun y => y ∈ b1), (fun y => y ∈ b2), _, _, hc 0 _ rfl, hc 1 _ rfl, RowS.sr (fun _ => 1) r1 n1 strS_sr, i1 e ce b2 g (p + 2) r2 n2 fun j u hu => ?_, fun x hx => by simpa using hx, fun x h1 h2 => n5 x h1 x h2 rfl, ?_⟩
      · have := hc (2 + j) u (by
          rw [List.getElem?_append_right (by simp)]
          simpa using hu)
        rw [← Nat.add_assoc] at this
        exact this
      · show _ ≤ 1 + _ + (List.map (mws h).ex _).sum
        rw [d4]
        simp
end Go.Proofs.Ytgeckgdmkjddpaa.Mh
namespace Go.Proofs.Ytgeckgdmkjddpaa.Mh
open Go.ChangeShapes Go.WideShapes Go.ChangeAt Go.RowKit
set_option linter.unusedVariables false

/-- The marks of an expression's rows, from none. -/
def Hx (w : World) (S : Nat → Prop) (H : Nat) (v1 v2 v3 : Value) (r : Nat) : Prop := ∃ r1 r2, r1 ≤ r2 ∧ r2 ≤ r ∧ HR 6 (hd w S H).ex S v1 0 r1 ∧ HR 9 (hd w S H).de S v2 r1 r2 ∧ HR 8 (hd w S H).al S v3 r2 r
set_option maxHeartbeats 1000000 in
set_option maxRecDepth 100000 in
theorem markExp_all {H m1 m2 m3 : Nat} {S S1 S2 S3 : Nat → Prop} {v1 v2 v3 : Value} (k : Int) (s : ByteArray) (n : Int) (w : World) (r1 : SR 6 (sh w H).ex w S1 v1 m1) (r2 : SR 9 (sh w H).de w S2 v2 m2) (r3 : SR 8 (sh w H).al w S3 v3 m3) (hS : ∀ x, S1 x ∨ S2 x ∨ S3 x → S x) (d1 : Dj S1 S2) (d2 : Dj S1 S3) (d3 : Dj S2 S3) (hw : ∀ x, S x → x < w.heap.size) (hm : m1 + m2 + m3 ≤ 8800000) :
    Calls Try.prog 10 #[.agg #[.int .i64 k, .string s, .int .i64 n, v1, v2, v3], .int .i64 1] w fun e w' => ∃ r : Nat, e = .returned (.int .i64 ((r : Int) + 1)) ∧ r ≤ m1 + m2 + m3 ∧ Hx w' S H v1 v2 v3 r ∧ Keeps (fun x => x < w.heap.size ∧ ¬ S x) w w' := by
  obtain ⟨o1, n1, c1, e1, -⟩ := id r1
  obtain ⟨o2, n2, c2, e2, -⟩ := id r2
  obtain ⟨o3, n3, c3, e3, -⟩ := id r3
  subst e1 e2 e3
  obtain ⟨iE, iD, iA⟩ := m_all H
  obtain ⟨V, hV⟩ : ∃ V, w.alloc (.cells #[.int .i64 k, .string s, .int .i64 n, .slice o1 n1 c1, .slice o2 n2 c2, .slice o3 n3 c3] 32) = V := ⟨_, rfl⟩
  have hb0 : Below w.heap.size w V := by rw [← hV]; exact (Below.refl _ w).alloc (Nat.le_refl _) _
  have hsV : V.heap.size = w.heap.size + 1 := by rw [← hV]; simp
  have hbox : V.heap[w.heap.size]? = some (.cells #[.int .i64 k, .string s, .int .i64 n, .slice o1 n1 c1, .slice o2 n2 c2, .slice o3 n3 c3] 32 (0, 0)) := by rw [← hV]; exact heap_alloc_new w _
  have HB0 := hide hb0
  have HBX := hide hbox
  have HS := hide hS
  have HW := hide hw
  have D1 := hide d1
  have D2 := hide d2
  have D3 := hide d3
  have R2 := hide r2
  have R3 := hide r3
  have HID := hide iD
  have HIA := hide iA
  have y3 := cell_of hbox 3
  simp only [List.getElem?_toArray, List.getElem?_cons_succ, List.getElem?_cons_zero] at y3
  have HC1 : Hid (Calls Try.prog 34 #[.slice o1 n1 c1, .int .i64 1] V (Mr 6 (fun w S => (hd w S H).ex) S1 (.slice o1 n1 c1) 0 m1 V)) := iE S1 _ m1 0 V (r1.toE fun x hx => hb0.block x (hw x (hS x (.inl hx)))) (fun x hx => by have := hw x (hS x (.inl hx)); omega) (by omega)
  clear hb0 hbox hS hw d1 d2 d3 r1 r2 r3 iE iD iA
  go_enter Try.func10, Try.ntmps10
  go_wp2_with fail
  refine Calls.mono HC1.out ?_
  rintro e w1 ⟨k1, rfl, ha1, hb1, hh1, hk1⟩
  have HH1 := hide hh1
  have HK1 := hide hk1
  clear hh1 hk1 y3 HC1
  have z1 : V.heap.size ≤ w1.heap.size := HK1.out.size
  have X1 : Hid (w1.heap[w.heap.size]? = some (.cells #[.int .i64 k, .string s, .int .i64 n, .slice o1 n1 c1, .slice o2 n2 c2, .slice o3 n3 c3] 32 (0, 0))) := (HK1.out.block _ ⟨by omega, fun h9 => by have := HW.out _ (HS.out _ (.inl h9)); omega⟩).trans HBX.out
  have y4 := cell_of X1.out 4
  simp only [List.getElem?_toArray, List.getElem?_cons_succ, List.getElem?_cons_zero] at y4
  have a1 : Hid (∀ x, S x → ¬ S1 x → w1.heap[x]? = w.heap[x]?) := fun x hx hn => (HK1.out.block x ⟨by have := HW.out x hx; omega, hn⟩).trans (HB0.out.block x (HW.out x hx))
  have HC2 : Hid (Calls Try.prog 35 #[.slice o2 n2 c2, .int .i64 ((k1 : Int) + 1)] w1 (Mr 9 (fun w S => (hd w S H).de) S2 (.slice o2 n2 c2) k1 m2 w1)) := HID.out S2 _ m2 k1 w1 (R2.out.toD fun x hx => a1.out x (HS.out x (.inr (.inl hx))) fun h9 => D1.out x h9 hx) (fun x hx => by have := HW.out x (HS.out x (.inr (.inl hx))); omega) (by omega)
  go_wp2_with fail
  refine Calls.mono HC2.out ?_
  rintro e w2 ⟨k2, rfl, ha2, hb2, hh2, hk2⟩
  have HH2 := hide hh2
  have HK2 := hide hk2
  clear hh2 hk2 y4 HC2
  have z2 : w1.heap.size ≤ w2.heap.size := HK2.out.size
  have X2 : Hid (w2.heap[w.heap.size]? = some (.cells #[.int .i64 k, .string s, .int .i64 n, .slice o1 n1 c1, .slice o2 n2 c2, .slice o3 n3 c3] 32 (0, 0))) := (HK2.out.block _ ⟨by omega, fun h9 => by have := HW.out _ (HS.out _ (.inr (.inl h9))); omega⟩).trans X1.out
  have y5 := cell_of X2.out 5
  simp only [List.getElem?_toArray, List.getElem?_cons_succ, List.getElem?_cons_zero] at y5
  have a2 : Hid (∀ x, S x → ¬ S2 x → w2.heap[x]? = w1.heap[x]?) := fun x hx hn => HK2.out.block x ⟨by have := HW.out x hx; omega, hn⟩
  have HC3 : Hid (Calls Try.prog 36 #[.slice o3 n3 c3, .int .i64 ((k2 : Int) + 1)] w2 (Mr 8 (fun w S => (hd w S H).al) S3 (.slice o3 n3 c3) k2 m3 w2)) := HIA.out S3 _ m3 k2 w2 (R3.out.toA fun x hx => (a2.out x (HS.out x (.inr (.inr hx))) fun h9 => D3.out x h9 hx).trans (a1.out x (HS.out x (.inr (.inr hx))) fun h9 => D2.out x h9 hx)) (fun x hx => by have := HW.out x (HS.out x (.inr (.inr hx))); omega) (by omega)
  go_wp2_with fail
  refine Calls.mono HC3.out ?_
  rintro e w3 ⟨k3, rfl, ha3, hb3, hh3, hk3⟩
  have HH3 := hide hh3
  have HK3 := hide hk3
  clear hh3 hk3 y5 HC3
  have a3 : Hid (∀ x, S x → ¬ S3 x → w3.heap[x]? = w2.heap[x]?) := fun x hx hn => HK3.out.block x ⟨by have := HW.out x hx; omega, hn⟩
  have HF : Hid (Hx w3 S H (.slice o1 n1 c1) (.slice o2 n2 c2) (.slice o3 n3 c3) k3) := by
    have i1 : ∀ x, S1 x → S x := fun x hx => HS.out x (.inl hx)
    have i2 : ∀ x, S2 x → S x := fun x hx => HS.out x (.inr (.inl hx))
    have i3 : ∀ x, S3 x → S x := fun x hx => HS.out x (.inr (.inr hx))
    exact ⟨k1, k2, ha2, ha3, HH1.out.toE (fun x hx => (a3.out x (i1 x hx) fun h9 => D2.out x hx h9).trans (a2.out x (i1 x hx) fun h9 => D1.out x hx h9)) i1, HH2.out.toD (fun x hx => a3.out x (i2 x hx) fun h9 => D3.out x hx h9) i2, HH3.out.toA (fun _ _ => rfl) i3⟩
  have HKK : Hid (Keeps (fun x => x < w.heap.size ∧ ¬ S x) w w3) := (keeps_of HB0.out fun _ h => h.1).trans ((HK1.out.mono fun x hx => ⟨by have := hx.1; omega, fun h9 => hx.2 (HS.out x (.inl h9))⟩).trans ((HK2.out.mono fun x hx => ⟨by have := hx.1; omega, fun h9 => hx.2 (HS.out x (.inr (.inl h9)))⟩).trans (HK3.out.mono fun x hx => ⟨by have := hx.1; omega, fun h9 => hx.2 (HS.out x (.inr (.inr h9)))⟩)))
  go_wp2
  go_ret
  exact ⟨k3, rfl, by omega, HF.out, HKK.out⟩
end Go.Proofs.Ytgeckgdmkjddpaa.Mh
namespace Go.Proofs.Ytgeckgdmkjddpaa.Mh
open Go.ChangeShapes Go.WideShapes Go.ChangeAt Go.RowKit
set_option linter.unusedVariables false

theorem Hx.same {w w' : World} {S : Nat → Prop} {H r : Nat} {v1 v2 v3 : Value} (h : Hx w S H v1 v2 v3 r) (hh : ∀ x, S x → w'.heap[x]? = w.heap[x]?) : Hx w' S H v1 v2 v3 r := by
  obtain ⟨r1, r2, a, b, h1, h2, h3⟩ := h
  exact ⟨r1, r2, a, b, h1.toE hh fun _ h => h, h2.toD hh fun _ h => h, h3.toA hh fun _ h => h⟩
set_option maxHeartbeats 1000000 in
set_option maxRecDepth 100000 in
theorem heldExp_all {H r : Nat} {S : Nat → Prop} {v1 v2 v3 : Value} (k : Int) (s : ByteArray) (n : Int) (w : World) (h : Hx w S H v1 v2 v3 r) (hw : ∀ x, S x → x < w.heap.size) (hr : r ≤ 8800000) :
    Calls Try.prog 11 #[.agg #[.int .i64 k, .string s, .int .i64 n, v1, v2, v3], .int .i64 1] w (Ends r w) := by
  obtain ⟨r1, r2, a12, a23, h1, h2, h3⟩ := h
  obtain ⟨o1, n1, c1, e1, -⟩ := id h1
  obtain ⟨o2, n2, c2, e2, -⟩ := id h2
  obtain ⟨o3, n3, c3, e3, -⟩ := id h3
  subst e1 e2 e3
  obtain ⟨iE, iD, iA⟩ := held_all H
  obtain ⟨V, hV⟩ : ∃ V, w.alloc (.cells #[.int .i64 k, .string s, .int .i64 n, .slice o1 n1 c1, .slice o2 n2 c2, .slice o3 n3 c3] 32) = V := ⟨_, rfl⟩
  have hb0 : Below w.heap.size w V := by rw [← hV]; exact (Below.refl _ w).alloc (Nat.le_refl _) _
  have hsV : V.heap.size = w.heap.size + 1 := by rw [← hV]; simp
  have hbox : V.heap[w.heap.size]? = some (.cells #[.int .i64 k, .string s, .int .i64 n, .slice o1 n1 c1, .slice o2 n2 c2, .slice o3 n3 c3] 32 (0, 0)) := by rw [← hV]; exact heap_alloc_new w _
  have HB0 := hide hb0
  have HBX := hide hbox
  have HW := hide hw
  have H2 := hide h2
  have H3 := hide h3
  have HID := hide iD
  have HIA := hide iA
  have y3 := cell_of hbox 3
  simp only [List.getElem?_toArray, List.getElem?_cons_succ, List.getElem?_cons_zero] at y3
  have HC1 : Hid (Calls Try.prog 37 #[.slice o1 n1 c1, .int .i64 1] V (Ends r1 V)) := iE S _ 0 r1 V (h1.toE (fun x hx => hb0.block x (hw x hx)) fun _ h => h) (by omega)
  clear hb0 hbox hw h1 h2 h3 iE iD iA
  go_enter Try.func11, Try.ntmps11
  go_wp2_with fail
  refine Calls.mono HC1.out ?_
  rintro e w1 ⟨rfl, hb1⟩
  have HB1 := hide hb1
  clear hb1 y3 HC1
  have z1 : V.heap.size ≤ w1.heap.size := HB1.out.size
  have X1 : Hid (w1.heap[w.heap.size]? = some (.cells #[.int .i64 k, .string s, .int .i64 n, .slice o1 n1 c1, .slice o2 n2 c2, .slice o3 n3 c3] 32 (0, 0))) := (HB1.out.block _ (by omega)).trans HBX.out
  have y4 := cell_of X1.out 4
  simp only [List.getElem?_toArray, List.getElem?_cons_succ, List.getElem?_cons_zero] at y4
  have a1 : Hid (∀ x, S x → w1.heap[x]? = w.heap[x]?) := fun x hx => (HB1.out.block x (by have := HW.out x hx; omega)).trans (HB0.out.block x (HW.out x hx))
  have HC2 : Hid (Calls Try.prog 38 #[.slice o2 n2 c2, .int .i64 ((r1 : Int) + 1)] w1 (Ends r2 w1)) := HID.out S _ r1 r2 w1 (H2.out.toD a1.out fun _ h => h) (by omega)
  go_wp2_with fail
  refine Calls.mono HC2.out ?_
  rintro e w2 ⟨rfl, hb2⟩
  have HB2 := hide hb2
  clear hb2 y4 HC2
  have z2 : w1.heap.size ≤ w2.heap.size := HB2.out.size
  have X2 : Hid (w2.heap[w.heap.size]? = some (.cells #[.int .i64 k, .string s, .int .i64 n, .slice o1 n1 c1, .slice o2 n2 c2, .slice o3 n3 c3] 32 (0, 0))) := (HB2.out.block _ (by omega)).trans X1.out
  have y5 := cell_of X2.out 5
  simp only [List.getElem?_toArray, List.getElem?_cons_succ, List.getElem?_cons_zero] at y5
  have a2 : Hid (∀ x, S x → w2.heap[x]? = w.heap[x]?) := fun x hx => (HB2.out.block x (by have := HW.out x hx; omega)).trans (a1.out x hx)
  have HC3 : Hid (Calls Try.prog 39 #[.slice o3 n3 c3, .int .i64 ((r2 : Int) + 1)] w2 (Ends r w2)) := HIA.out S _ r2 r w2 (H3.out.toA a2.out fun _ h => h) (by omega)
  go_wp2_with fail
  refine Calls.mono HC3.out ?_
  rintro e w3 ⟨rfl, hb3⟩
  have HB3 : Hid (Below w.heap.size w w3) := HB0.out.trans ((HB1.out.mono (by omega)).trans ((HB2.out.mono (by omega)).trans (hb3.mono (by omega))))
  clear hb3 y5 HC3
  go_wp2
  go_ret
  exact ⟨rfl, HB3.out⟩
end Go.Proofs.Ytgeckgdmkjddpaa.Mh
namespace Go.Proofs.Ytgeckgdmkjddpaa.Br
open Go.ChangeShapes Go.WideShapes Go.ChangeAt Go.RowKit Go.Proofs.Ytgeckgdmkjddpaa.Rd
open Mh (mws Hx seps_sh markExp_all heldExp_all)
set_option linter.unusedVariables false

theorem mws_lams {e : Tr} {B : Nat} (he : ∀ H, (mws H).ex e ≤ B) : ∀ (ss : List ByteArray) H, (mws H).ex (lams ss e) ≤ 3 * ss.length + B := by
  intro ss
  induction ss with
  | nil => intro H; have := he H; simpa [lams] using this
  | cons s r ih =>
    intro H
    cases H with
    | zero => exact Nat.zero_le _
    | succ H =>
      show 3 + (([lams r e].map (mws H).ex).sum) + (([] : List Tr).map (mws H).de).sum + (([] : List Tr).map (mws H).al).sum ≤ _
      have := ih H
      simp
      omega
theorem sum_map_le {α β : Type} (f : β → Nat) (g : α → β) (l : List α) : ((l.map g).map f).sum = (l.map fun x => f (g x)).sum := by
  rw [List.map_map]
  rfl
theorem decs_le {h : Nat} {ds : List Tr} (hB : ∀ d ∈ ds, ∀ H, (mws H).ex ((brs h).de d) ≤ 6 + 7 * (wts h).de d) (H : Nat) : ((bareDs h ds).map (mws H).de).sum ≤ 7 * lw (wts h).de ds := by
  unfold bareDs
  rw [sum_map_le]
  refine Nm.sum_lin _ _ 7 7 ds (fun d hd => ?_) (Nat.le_refl _)
  cases H with
  | zero => exact Nat.zero_le _
  | succ H =>
    show 1 + ((([] : List ByteArray).map fun _ => 1).sum) + (([(brs h).de d].map (mws H).ex).sum) + (([] : List Tr).map (mws H).de).sum ≤ _
    have := hB d hd H
    simp
    omega
theorem mws_all {K : Nat → Prop} {w : World} : ∀ h, (∀ e cs, (reads K w h).ex e cs → ∀ H, (mws H).ex ((brs h).ex e) ≤ 3 + 7 * (wts h).ex e) ∧ (∀ d cs, (reads K w h).de d cs → ∀ H, (mws H).ex ((brs h).de d) ≤ 6 + 7 * (wts h).de d) ∧ (∀ a cs, (reads K w h).al a cs → ∀ H, (mws H).al ((brs h).al a) ≤ 4 + 7 * (wts h).al a) := by
  intro h
  induction h with
  | zero => exact ⟨fun _ _ h => h.elim, fun _ _ h => h.elim, fun _ _ h => h.elim⟩
  | succ h ih =>
    obtain ⟨iE, iD, iA⟩ := ih
    refine ⟨fun e cs he H => ?_, fun d cs hd H => ?_, fun a cs ha H => ?_⟩
    · obtain ⟨-, o1, c1, o2, c2, o3, c3, -, -, -, -, -, r1, r2, r3⟩ := he
      cases H with
      | zero => exact Nat.zero_le _
      | succ H =>
        show 3 + ((e.l.map (brs h).ex).map (mws H).ex).sum + ((bareDs h e.ds).map (mws H).de).sum + ((e.al.map (brs h).al).map (mws H).al).sum ≤ 3 + 7 * (e.s.size + lw (wts h).ex e.l + lw (wts h).de e.ds + lw (wts h).al e.al)
        have k1 : ((e.l.map (brs h).ex).map (mws H).ex).sum ≤ 7 * lw (wts h).ex e.l := by
          rw [sum_map_le]
          exact Nm.sum_lin _ _ 3 7 _ (fun y hy => by obtain ⟨cy, hy2⟩ := Nm.row_all r1 y hy; exact iE y cy hy2 H) (by omega)
        have k2 : ((bareDs h e.ds).map (mws H).de).sum ≤ 7 * lw (wts h).de e.ds := decs_le (fun d hd H => by obtain ⟨cy, hy2⟩ := Nm.row_all r2 d hd; exact iD d cy hy2 H) H
        have k3 : ((e.al.map (brs h).al).map (mws H).al).sum ≤ 7 * lw (wts h).al e.al := by
          rw [sum_map_le]
          exact Nm.sum_lin _ _ 4 7 _ (fun y hy => by obtain ⟨cy, hy2⟩ := Nm.row_all r3 y hy; exact iA y cy hy2 H) (by omega)
        omega
    · obtain ⟨-, -, -, y, o1, c1, ce, o2, c2, hl, -, -, -, -, -, -, ry, rd⟩ := hd
      have hT : (brs (h + 1)).de d = lams d.ss (wlet (bareDs h d.ds) ((brs h).ex y)) := by
        show lams d.ss (wlet (bareDs h d.ds) ((d.l.map (brs h).ex).headD d)) = _
        rw [hl]
        rfl
      have hW : (wts (h + 1)).de d = d.s.size + sw d.ss + (wts h).ex y + lw (wts h).de d.ds := by
        show d.s.size + sw d.ss + (d.l.map (wts h).ex).sum + lw (wts h).de d.ds = _
        rw [hl]
        simp
      rw [hT, hW]
      have hb : ∀ H, (mws H).ex (wlet (bareDs h d.ds) ((brs h).ex y)) ≤ 6 + 7 * (wts h).ex y + 7 * lw (wts h).de d.ds := by
        intro H
        have hy := iE y ce ry
        unfold wlet
        split
        · have := hy H; omega
        · cases H with
          | zero => exact Nat.zero_le _
          | succ H =>
            show 3 + (([(brs h).ex y].map (mws H).ex).sum) + ((bareDs h d.ds).map (mws H).de).sum + (([] : List Tr).map (mws H).al).sum ≤ _
            have k2 : ((bareDs h d.ds).map (mws H).de).sum ≤ 7 * lw (wts h).de d.ds := decs_le (fun d hd H => by obtain ⟨cy, hy2⟩ := Nm.row_all rd d hd; exact iD d cy hy2 H) H
            have := hy H
            simp
            omega
      have := mws_lams hb d.ss H
      unfold sw
      omega
    · obtain ⟨-, -, -, -, y, o1, c1, ce, hl, -, -, -, -, -, ry⟩ := ha
      have hT : (brs (h + 1)).al a = tAlt a.s a.ss ((brs h).ex y) := by
        show tAlt a.s a.ss ((a.l.map (brs h).ex).headD a) = _
        rw [hl]
        rfl
      have hW : (wts (h + 1)).al a = a.s.size + sw a.ss + (wts h).ex y := by
        show a.s.size + sw a.ss + (a.l.map (wts h).ex).sum = _
        rw [hl]
        simp
      rw [hT, hW]
      cases H with
      | zero => exact Nat.zero_le _
      | succ H =>
        show 1 + ((a.ss.map fun _ => 1).sum) + (([(brs h).ex y].map (mws H).ex).sum) ≤ _
        have := iE y ce ry H
        have hs : (a.ss.map fun _ => 1).sum = a.ss.length := by
          generalize a.ss = l
          induction l with
          | nil => rfl
          | cons q r ih => simp [ih]; omega
        unfold sw
        rw [hs, List.map_cons, List.map_nil, List.sum_cons, List.sum_nil]
        omega
/-- How an answer is marked, and how it is held. -/
def MarksB (t : Tr) : Prop := ∀ (w : World) (a u H : Nat) (cs : List Value), TreeT w a u H 0 t cs → u ≤ w.heap.size → ∃ (S : Nat → Prop) (Hold : Nat → World → Prop), (∀ x, S x → a ≤ x ∧ x < u) ∧
  Calls Try.prog 10 #[.agg cs.toArray, .int .i64 1] w (fun e w' => ∃ r : Nat, e = .returned (.int .i64 ((r : Int) + 1)) ∧ r ≤ 8000000 ∧ Hold r w' ∧ Keeps (fun x => x < w.heap.size ∧ ¬ S x) w w') ∧
  (∀ r w1, Hold r w1 → (∀ x, S x → x < w1.heap.size) → r ≤ 8000000 → Calls Try.prog 11 #[.agg cs.toArray, .int .i64 1] w1 fun e w' => e = .returned (.int .i64 ((r : Int) + 1)) ∧ Below w1.heap.size w1 w') ∧
  (∀ r w1 w2, Hold r w1 → (∀ x, S x → w2.heap[x]? = w1.heap[x]?) → Hold r w2)
theorem marksB_of {t : Tr} (hb : ∀ H, (mws H).ex t ≤ 8000000) : MarksB t := by
  intro w a u H cs hT hu
  obtain ⟨bs, h1, h2⟩ := hT
  cases H with
  | zero => exact (show False from h1).elim
  | succ H =>
    have hbd := hb (H + 1)
    obtain ⟨e0, e1, v1, v2, v3, b1, b2, b3, rfl, rfl, r1, r2, r3⟩ := (show (seps w (H + 1)).ex t cs bs from h1)
    obtain ⟨n12, n3, n4⟩ := List.nodup_append.1 h2.1
    obtain ⟨n1, n2, n5⟩ := List.nodup_append.1 n12
    obtain ⟨i1, i2, i3⟩ := seps_sh (w := w) H
    have q1 := Mh.RowS.sr (mws H).ex r1 n1 i1
    have q2 := Mh.RowS.sr (mws H).de r2 n2 i2
    have q3 := Mh.RowS.sr (mws H).al r3 n3 i3
    have hbd' : 3 + ((t.l.map (mws H).ex).sum) + ((t.ds.map (mws H).de).sum) + ((t.al.map (mws H).al).sum) ≤ 8000000 := hbd
    have hw : ∀ x, (x ∈ b1 ++ b2 ++ b3) → x < w.heap.size := fun x hx => Nat.lt_of_lt_of_le (h2.2 x hx).2 hu
    refine ⟨fun x => x ∈ b1 ++ b2 ++ b3, fun r w' => Hx w' (fun x => x ∈ b1 ++ b2 ++ b3) H v1 v2 v3 r, fun x hx => h2.2 x hx, ?_, ?_, ?_⟩
    · refine (markExp_all (S := fun x => x ∈ b1 ++ b2 ++ b3) _ _ _ w q1 q2 q3 (fun x hx => by simpa [or_assoc] using hx) (fun x h1 h2 => n5 x h1 x h2 rfl) (fun x h1 h2 => n4 x (List.mem_append_left _ h1) x h2 rfl) (fun x h1 h2 => n4 x (List.mem_append_right _ h1) x h2 rfl) hw (by omega)).mono ?_
      rintro e w' ⟨r, rfl, hr, hx, hk⟩
      exact ⟨r, rfl, by omega, hx, hk⟩
    · intro r w1 hx hw1 hr
      exact heldExp_all _ _ _ w1 hx hw1 (by omega)
    · intro r w1 w2 hx hh
      exact hx.same hh
end Go.Proofs.Ytgeckgdmkjddpaa.Br

/- IsBare, plainly: lists by where they are, what lies in them, and why it is enough to look at each once. -/
import Derived.Test.YtnmofagmjcengaaJB
import Derived.Test.YtnmofagmjcengaaXC
namespace Go.Proofs.Ytnmofagmjcengaa.Br
open Go.ChangeShapes Go.WideShapes Go.ChangeAt Go.RowKit
set_option linter.unusedVariables false

/-- A list by its kind (expressions, definitions, alternatives), where it is, how long, and with which room. -/
structure Ls where
  i : Nat
  o : Option Addr
  n : Nat
  c : Nat
def szI (i : Nat) : Nat := if i = 0 then 6 else if i = 1 then 9 else 8
def rdI (K : Nat → Prop) (w : World) (h i : Nat) : Tr → List Value → Prop := if i = 0 then (reads K w h).ex else if i = 1 then (reads K w h).de else (reads K w h).al
def ibI (h i : Nat) : Tr → Bool := if i = 0 then (ibs h).ex else if i = 1 then (ibs h).de else (ibs h).al
def wtI (h i : Nat) : Tr → Nat := if i = 0 then (wts h).ex else if i = 1 then (wts h).de else (wts h).al
/-- The list whose slice lies at a place. -/
def slAt (w : World) (b p i : Nat) : List Ls := match w.cell? ⟨b, p, none⟩ with
  | some (.slice o n c) => if n = 0 then [] else [⟨i, o, n, c⟩]
  | _ => []
def kE (w : World) (b p : Nat) : List Ls := slAt w b (p + 3) 0 ++ slAt w b (p + 4) 1 ++ slAt w b (p + 5) 2
def kOne (w : World) (i b p : Nat) : List Ls := if i = 0 then kE w b p else if i = 1 then kE w b (p + 2) ++ slAt w b (p + 8) 1 else kE w b (p + 2)
/-- The lists that lie in a list. -/
def kids (w : World) (x : Ls) : List Ls := match x.o with
  | some a => (List.range x.n).flatMap fun j => kOne w x.i a.block (a.off + j * szI x.i)
  | none => []
def lenAt (w : World) (b p : Nat) : Nat := match w.cell? ⟨b, p, none⟩ with
  | some (.slice _ n _) => n
  | _ => 0
/-- A definition with Pars or with a Where stands in it. -/
def bad (w : World) (x : Ls) : Prop := x.i = 1 ∧ ∃ a, x.o = some a ∧ ∃ j, j < x.n ∧ (lenAt w a.block (a.off + j * 9 + 1) ≠ 0 ∨ lenAt w a.block (a.off + j * 9 + 8) ≠ 0)
def Bad (w : World) (x : Ls) : Prop := ∀ P : Ls → Prop, (∀ x, bad w x → P x) → (∀ x y, y ∈ kids w x → P y → P x) → P x
theorem Bad.here {w : World} (x : Ls) (h : bad w x) : Bad w x := fun _ h1 _ => h1 x h
theorem Bad.kid {w : World} (x y : Ls) (hy : y ∈ kids w x) (h : Bad w y) : Bad w x := fun P h1 h2 => h2 x y hy (h P h1 h2)
theorem Bad.inv {w : World} {x : Ls} (h : Bad w x) : bad w x ∨ ∃ y, y ∈ kids w x ∧ Bad w y :=
  (h (fun x => Bad w x ∧ (bad w x ∨ ∃ y, y ∈ kids w x ∧ Bad w y)) (fun x hx => ⟨.here x hx, .inl hx⟩) (fun x y hy hp => ⟨.kid x y hy hp.1, .inr ⟨y, hy, hp.1⟩⟩)).2
/-- In a list of this place stand these trees. -/
def Rd (K : Nat → Prop) (w : World) (h : Nat) (x : Ls) (xs : List Tr) : Prop := x.i < 3 ∧ xs ≠ [] ∧ x.n = xs.length ∧ Fits xs.length x.c ∧ RowOf K w (rdI K w h x.i) (szI x.i) x.o xs
/-- What is left, and how much it weighs at most. -/
def WtL (K : Nat → Prop) (w : World) : List Ls → Nat → Prop
  | [], _ => True
  | x :: l, n => ∃ h xs m, Rd K w h x xs ∧ lw (wtI h x.i) xs + m ≤ n ∧ WtL K w l m
section
variable {K : Nat → Prop} {w : World}
theorem WtL.mono {l : List Ls} {n m : Nat} (h : WtL K w l n) (hn : n ≤ m) : WtL K w l m := by
  cases l with
  | nil => trivial
  | cons p l =>
    obtain ⟨a, t, k, h1, h2, h3⟩ := h
    exact ⟨a, t, k, h1, by omega, h3⟩
theorem WtL.join {l r : List Ls} {n m : Nat} (h : WtL K w l n) (k : WtL K w r m) : WtL K w (l ++ r) (n + m) := by
  induction l generalizing n with
  | nil => exact k.mono (by omega)
  | cons p l ih =>
    obtain ⟨a, t, q, h1, h2, h3⟩ := h
    exact ⟨a, t, q + m, h1, by omega, ih h3⟩
theorem WtL.split {l r : List Ls} {n : Nat} (h : WtL K w (l ++ r) n) : ∃ a b, WtL K w l a ∧ WtL K w r b ∧ a + b ≤ n := by
  induction l generalizing n with
  | nil => exact ⟨0, n, trivial, h, by omega⟩
  | cons p l ih =>
    obtain ⟨a, t, q, h1, h2, h3⟩ := h
    obtain ⟨x, y, e1, e2, e3⟩ := ih h3
    exact ⟨lw (wtI a p.i) t + x, y, ⟨a, t, x, h1, Nat.le_refl _, e1⟩, e2, by omega⟩
theorem lw_pos {f : Tr → Nat} {xs : List Tr} (h : xs ≠ []) : 1 ≤ lw f xs := by
  cases xs with
  | nil => exact absurd rfl h
  | cons x r => unfold lw; simp; omega
theorem WtL.len {l : List Ls} {n : Nat} (h : WtL K w l n) : l.length ≤ n := by
  induction l generalizing n with
  | nil => exact Nat.zero_le _
  | cons p l ih =>
    obtain ⟨a, t, q, h1, h2, h3⟩ := h
    have h4 := ih h3
    have h5 := lw_pos (f := wtI a p.i) h1.2.1
    rw [List.length_cons]
    omega
theorem WtL.all {l : List Ls} {n : Nat} (h : WtL K w l n) : ∀ x ∈ l, ∃ h xs, Rd K w h x xs ∧ lw (wtI h x.i) xs ≤ n := by
  induction l generalizing n with
  | nil => intro x hx; cases hx
  | cons p l ih =>
    obtain ⟨a, t, q, h1, h2, h3⟩ := h
    intro x hx
    rcases List.mem_cons.1 hx with rfl | hx
    · exact ⟨a, t, h1, by omega⟩
    · obtain ⟨h', xs, h4, h5⟩ := ih h3 x hx
      exact ⟨h', xs, h4, by omega⟩
/-- What holds of one list that lies somewhere. -/
theorem one_facts {h i b p : Nat} {o : Option Addr} {c : Nat} {l : List Tr} (hi : i < 3) (hc : w.cell? ⟨b, p, none⟩ = some (.slice o l.length c)) (hf : Fits l.length c) (hr : RowOf K w (rdI K w h i) (szI i) o l) :
    ((∀ y ys, Rd K w h y ys → (ys.all (ibI h y.i) = true ↔ ¬ Bad w y)) → ((∀ y ∈ slAt w b p i, ¬ Bad w y) ↔ l.all (ibI h i) = true)) ∧ WtL K w (slAt w b p i) (lw (wtI h i) l) ∧ lenAt w b p = l.length := by
  unfold slAt lenAt
  rw [hc]
  simp only
  by_cases hl : l.length = 0
  · have e : l = [] := List.length_eq_zero_iff.1 hl
    rw [if_pos hl]
    subst e
    exact ⟨fun _ => ⟨fun _ => rfl, fun _ y hy => by cases hy⟩, trivial, by simp⟩
  · rw [if_neg hl]
    have hrd : Rd K w h ⟨i, o, l.length, c⟩ l := ⟨hi, fun e => hl (by rw [e]; rfl), rfl, hf, hr⟩
    refine ⟨fun ih => ?_, ⟨h, l, 0, hrd, Nat.le_refl _, trivial⟩, trivial⟩
    have := ih _ _ hrd
    constructor
    · exact fun hy => this.2 (hy _ (by simp))
    · intro ha y hy
      rw [List.mem_singleton] at hy
      subst hy
      exact this.1 ha
theorem kE_facts {h b p : Nat} {e : Tr} {ce : List Value} (hc : ∀ j u, ce[j]? = some u → w.cell? ⟨b, p + j, none⟩ = some u) (hr : (reads K w (h + 1)).ex e ce) :
    ((∀ y ys, Rd K w h y ys → (ys.all (ibI h y.i) = true ↔ ¬ Bad w y)) → ((∀ y ∈ kE w b p, ¬ Bad w y) ↔ (ibs (h + 1)).ex e = true)) ∧ WtL K w (kE w b p) ((wts (h + 1)).ex e) := by
  obtain ⟨-, o1, c1, o2, c2, o3, c3, rfl, -, f1, f2, f3, r1, r2, r3⟩ := hr
  obtain ⟨a1, a2, -⟩ := one_facts (h := h) (i := 0) (b := b) (p := p + 3) (by omega) (hc 3 _ rfl) f1 r1
  obtain ⟨b1, b2, -⟩ := one_facts (h := h) (i := 1) (b := b) (p := p + 4) (by omega) (hc 4 _ rfl) f2 r2
  obtain ⟨d1, d2, -⟩ := one_facts (h := h) (i := 2) (b := b) (p := p + 5) (by omega) (hc 5 _ rfl) f3 r3
  refine ⟨fun ih => ?_, ?_⟩
  · have x1 := a1 ih
    have x2 := b1 ih
    have x3 := d1 ih
    show _ ↔ (e.l.all (ibs h).ex && (e.al.all (ibs h).al && e.ds.all (ibs h).de)) = true
    rw [Bool.and_eq_true, Bool.and_eq_true]
    unfold kE
    constructor
    · intro hy
      exact ⟨x1.1 fun y h => hy y (by simp [h]), x3.1 fun y h => hy y (by simp [h]), x2.1 fun y h => hy y (by simp [h])⟩
    · rintro ⟨y1, y3, y2⟩ y hy
      rw [List.mem_append, List.mem_append] at hy
      rcases hy with (hy | hy) | hy
      · exact x1.2 y1 y hy
      · exact x2.2 y2 y hy
      · exact x3.2 y3 y hy
  · unfold kE
    refine ((a2.join b2).join d2).mono ?_
    show lw (wts h).ex e.l + lw (wts h).de e.ds + lw (wts h).al e.al ≤ e.s.size + lw (wts h).ex e.l + lw (wts h).de e.ds + lw (wts h).al e.al
    omega
/-- What is known of one element of a list. -/
theorem kOne_facts {h i b p : Nat} {t : Tr} {cs : List Value} (hi : i < 3) (hc : ∀ j u, cs[j]? = some u → w.cell? ⟨b, p + j, none⟩ = some u) (hr : rdI K w h i t cs) :
    ((∀ h', h' < h → ∀ y ys, Rd K w h' y ys → (ys.all (ibI h' y.i) = true ↔ ¬ Bad w y)) →
      (((∀ y ∈ kOne w i b p, ¬ Bad w y) ∧ (i = 1 → lenAt w b (p + 1) = 0 ∧ lenAt w b (p + 8) = 0)) ↔ ibI h i t = true)) ∧ WtL K w (kOne w i b p) (wtI h i t) := by
  have hcases : i = 0 ∨ i = 1 ∨ i = 2 := by omega
  rcases hcases with rfl | rfl | rfl
  · cases h with
    | zero => exact hr.elim
    | succ h =>
      obtain ⟨x1, x2⟩ := kE_facts hc hr
      refine ⟨fun ih => ?_, x2⟩
      rw [← show ((∀ y ∈ kE w b p, ¬ Bad w y) ↔ ibI (h + 1) 0 t = true) from x1 (ih h (by omega))]
      exact ⟨fun q => q.1, fun q => ⟨q, fun e => by omega⟩⟩
  · cases h with
    | zero => exact hr.elim
    | succ h =>
      obtain ⟨-, -, -, e, o1, c1, ce, o2, c2, hl, rfl, -, f1, f2, -, lce, rce, r2⟩ := hr
      have hce : ∀ j u, ce[j]? = some u → w.cell? ⟨b, (p + 2) + j, none⟩ = some u := by
        intro j u hj
        have hj2 : j < ce.length := (List.getElem?_eq_some_iff.1 hj).1
        have h9 := hc (2 + j) u (by
          rw [List.getElem?_append_left (by simp; omega), List.getElem?_append_right (by simp)]
          simpa using hj)
        rw [show p + 2 + j = p + (2 + j) by omega]
        exact h9
      have hw8 := hc 8 (.slice o2 t.ds.length c2) (by
        rw [List.getElem?_append_right (by simp [lce])]
        simp [lce])
      have hw1 := hc 1 (.slice o1 t.ss.length c1) rfl
      obtain ⟨d1, d2, d3⟩ := one_facts (h := h) (i := 1) (b := b) (p := p + 8) (by omega) hw8 f2 r2
      have l1 : lenAt w b (p + 1) = t.ss.length := by unfold lenAt; rw [hw1]
      cases h with
      | zero => exact rce.elim
      | succ h =>
        obtain ⟨x1, x2⟩ := kE_facts hce rce
        refine ⟨fun ih => ?_, ?_⟩
        · have y1 := x1 (ih h (by omega))
          show _ ↔ (t.ss.isEmpty && (t.ds.isEmpty && t.l.all (ibs (h + 1)).ex)) = true
          rw [Bool.and_eq_true, Bool.and_eq_true, List.isEmpty_iff, List.isEmpty_iff, hl]
          simp only [List.all_cons, List.all_nil, Bool.and_true]
          rw [l1, d3, ← y1]
          constructor
          · rintro ⟨q1, q2⟩
            obtain ⟨q3, q4⟩ := q2 (by simp)
            exact ⟨List.length_eq_zero_iff.1 q3, List.length_eq_zero_iff.1 q4, fun y hy => q1 y (by show y ∈ kE w b (p + 2) ++ slAt w b (p + 8) 1; simp [hy])⟩
          · rintro ⟨q3, q4, q5⟩
            refine ⟨fun y hy => ?_, fun _ => ⟨by rw [q3]; rfl, by rw [q4]; rfl⟩⟩
            have hy2 : y ∈ kE w b (p + 2) ++ slAt w b (p + 8) 1 := hy
            rw [List.mem_append] at hy2
            rcases hy2 with hy2 | hy2
            · exact q5 y hy2
            · unfold slAt at hy2
              rw [hw8, q4] at hy2
              simp at hy2
        · show WtL K w (kE w b (p + 2) ++ slAt w b (p + 8) 1) _
          refine (x2.join d2).mono ?_
          show (wts (h + 1)).ex e + lw (wts (h + 1)).de t.ds ≤ t.s.size + sw t.ss + (t.l.map (wts (h + 1)).ex).sum + lw (wts (h + 1)).de t.ds
          rw [hl]
          simp only [List.map_cons, List.map_nil, List.sum_cons, List.sum_nil]
          omega
  · cases h with
    | zero => exact hr.elim
    | succ h =>
      obtain ⟨-, -, -, -, e, o1, c1, ce, hl, rfl, -, f1, -, lce, rce⟩ := hr
      have hce : ∀ j u, ce[j]? = some u → w.cell? ⟨b, (p + 2) + j, none⟩ = some u := by
        intro j u hj
        have h9 := hc (2 + j) u (by
          rw [List.getElem?_append_right (by simp)]
          simpa using hj)
        rw [show p + 2 + j = p + (2 + j) by omega]
        exact h9
      cases h with
      | zero => exact rce.elim
      | succ h =>
        obtain ⟨x1, x2⟩ := kE_facts hce rce
        refine ⟨fun ih => ?_, ?_⟩
        · have y1 := x1 (ih h (by omega))
          show _ ↔ (t.l.all (ibs (h + 1)).ex) = true
          rw [hl]
          simp only [List.all_cons, List.all_nil, Bool.and_true]
          rw [← y1]
          exact ⟨fun q => q.1, fun q => ⟨q, fun e => by omega⟩⟩
        · show WtL K w (kE w b (p + 2)) _
          refine x2.mono ?_
          show (wts (h + 1)).ex e ≤ t.s.size + sw t.ss + (t.l.map (wts (h + 1)).ex).sum
          rw [hl]
          simp only [List.map_cons, List.map_nil, List.sum_cons, List.sum_nil]
          omega
theorem Rd.at {h : Nat} {x : Ls} {xs : List Tr} (hr : Rd K w h x xs) : ∃ b off, x.o = some ⟨b, off, none⟩ ∧ K b ∧ b < w.heap.size ∧ ∀ j t, xs[j]? = some t → ∃ cs, cs.length = szI x.i ∧ (∀ q u, cs[q]? = some u → w.cell? ⟨b, off + j * szI x.i + q, none⟩ = some u) ∧ rdI K w h x.i t cs := by
  obtain ⟨h1, h2, h3, h4, h5⟩ := hr
  obtain ⟨b, off, e1, e2, e3, e4⟩ := h5 h2
  exact ⟨b, off, e1, e2, e3, e4⟩
/-- What lies in a list weighs less than the list. -/
theorem Rd.kids {h : Nat} {x : Ls} {xs : List Tr} (hr : Rd K w h x xs) : WtL K w (kids w x) (xs.map (wtI h x.i)).sum ∧ (xs.map (wtI h x.i)).sum + 1 ≤ lw (wtI h x.i) xs := by
  have hx := hr
  obtain ⟨b, off, e1, -, -, e4⟩ := hr.at
  refine ⟨?_, by have h1 := List.length_pos_iff.2 hx.2.1; unfold lw; omega⟩
  unfold Br.kids
  rw [e1, hx.2.2.1]
  simp only
  have key : ∀ n, n ≤ xs.length → WtL K w ((List.range n).flatMap fun j => kOne w x.i b (off + j * szI x.i)) ((xs.take n).map (wtI h x.i)).sum := by
    intro n
    induction n with
    | zero => intro _; trivial
    | succ n ih =>
      intro hn
      have h1 : xs[n]? = some xs[n] := List.getElem?_eq_getElem (by omega)
      obtain ⟨cs, -, c1, c2⟩ := e4 n _ h1
      rw [List.range_succ, List.flatMap_append, List.take_add_one, h1, List.map_append, List.sum_append]
      refine (ih (by omega)).join ?_
      simp only [List.flatMap_cons, List.flatMap_nil, List.append_nil, Option.toList_some, List.map_cons, List.map_nil, List.sum_cons, List.sum_nil, Nat.add_zero]
      exact (kOne_facts hx.1 c1 c2).2
  have h2 := key xs.length (Nat.le_refl _)
  rw [List.take_length] at h2
  exact h2
/-- What stands in a list is bare just if nothing of it is bad. -/
theorem rd_bad : ∀ (h : Nat) (x : Ls) (xs : List Tr), Rd K w h x xs → (xs.all (ibI h x.i) = true ↔ ¬ Bad w x) := by
  intro h
  induction h using Nat.strongRecOn with
  | ind h ih =>
    intro x xs hr
    have hx := hr
    obtain ⟨b, off, e1, -, -, e4⟩ := hr.at
    have each : ∀ (j : Nat) (t : Tr), xs[j]? = some t → (((∀ y ∈ kOne w x.i b (off + j * szI x.i), ¬ Bad w y) ∧ (x.i = 1 → lenAt w b (off + j * szI x.i + 1) = 0 ∧ lenAt w b (off + j * szI x.i + 8) = 0)) ↔ ibI h x.i t = true) := by
      intro j t ht
      obtain ⟨cs, -, c1, c2⟩ := e4 j t ht
      exact (kOne_facts hx.1 c1 c2).1 ih
    have hk : ∀ y, y ∈ kids w x ↔ ∃ j, j < xs.length ∧ y ∈ kOne w x.i b (off + j * szI x.i) := by
      intro y
      unfold Br.kids
      rw [e1, hx.2.2.1]
      simp [List.mem_flatMap]
    rw [List.all_eq_true]
    constructor
    · intro hall hb
      rcases hb.inv with hb | ⟨y, hy, hb⟩
      · obtain ⟨b1, a, ea, j, hj, hl⟩ := hb
        rw [e1] at ea
        cases ea
        rw [hx.2.2.1] at hj
        have h1 := (each j _ (List.getElem?_eq_getElem hj)).2 (hall _ (List.getElem_mem hj))
        have h2 := h1.2 b1
        have hs : szI x.i = 9 := by rw [b1]; rfl
        rw [hs] at h2
        rcases hl with hl | hl
        · exact hl h2.1
        · exact hl h2.2
      · obtain ⟨j, hj, hy2⟩ := (hk y).1 hy
        exact ((each j _ (List.getElem?_eq_getElem hj)).2 (hall _ (List.getElem_mem hj))).1 y hy2 hb
    · intro hb t ht
      obtain ⟨j, hj⟩ := List.mem_iff_getElem?.1 ht
      have hj2 : j < xs.length := (List.getElem?_eq_some_iff.1 hj).1
      refine (each j t hj).1 ⟨fun y hy hby => hb (.kid x y ((hk y).2 ⟨j, hj2, hy⟩) hby), fun e => ?_⟩
      have hs : szI x.i = 9 := by rw [e]; rfl
      rw [hs]
      refine ⟨Classical.byContradiction fun hl => hb (.here x ⟨e, _, e1, j, by rw [hx.2.2.1]; exact hj2, .inl hl⟩), Classical.byContradiction fun hl => hb (.here x ⟨e, _, e1, j, by rw [hx.2.2.1]; exact hj2, .inr hl⟩)⟩
end
/-- Two lists of one kind at one place. -/
def key (x : Ls) : Nat × Option Addr × Nat := (x.i, x.o, x.n)
theorem kids_key {w : World} {x y : Ls} (h : key x = key y) : kids w x = kids w y := by
  unfold key at h
  simp only [Prod.mk.injEq] at h
  unfold kids
  rw [h.1, h.2.1, h.2.2]
theorem bad_key {w : World} {x y : Ls} (h : key x = key y) (hb : bad w x) : bad w y := by
  unfold key at h
  simp only [Prod.mk.injEq] at h
  unfold bad at hb ⊢
  rw [← h.1, ← h.2.1, ← h.2.2]
  exact hb
/-- Lists none of which is bad, and with each all that lie in it: nothing of them is bad. -/
theorem closed_fine {w : World} {ys : List Ls} (hn : ∀ x ∈ ys, ¬ bad w x) (hc : ∀ x ∈ ys, ∀ y ∈ kids w x, ∃ z ∈ ys, key z = key y) : ∀ x, Bad w x → ∀ z ∈ ys, key z = key x → False := by
  intro x hb
  refine hb (fun x => ∀ z ∈ ys, key z = key x → False) (fun x hb z hz e => hn z hz (bad_key e.symm hb)) fun x y hy ih z hz e => ?_
  rw [← kids_key e] at hy
  obtain ⟨v, hv, ev⟩ := hc z hz y hy
  exact ih v hv ev
end Go.Proofs.Ytnmofagmjcengaa.Br

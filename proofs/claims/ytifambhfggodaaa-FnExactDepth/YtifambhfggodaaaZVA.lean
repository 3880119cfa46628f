/- Depth's lists, plainly: a list of results by where it is; what lies in it; what a walk of the lists upwards holds. -/
import Derived.Test.YtifambhfggodaaaZRE
namespace Go.Proofs.Ytifambhfggodaaa.Rs
open Go.ChangeShapes Go.WideShapes Go.ChangeAt Go.RowKit
set_option linter.unusedVariables false

theorem le_mx : ∀ (l : List Nat) (x : Nat), x ∈ l → x ≤ mx l := by
  have key : ∀ (l : List Nat) (a : Nat), a ≤ l.foldl max a ∧ ∀ x ∈ l, x ≤ l.foldl max a := by
    intro l
    induction l with
    | nil => intro a; exact ⟨Nat.le_refl _, fun x hx => by cases hx⟩
    | cons y l ih =>
      intro a
      obtain ⟨h1, h2⟩ := ih (max a y)
      refine ⟨Nat.le_trans (Nat.le_max_left _ _) h1, fun x hx => ?_⟩
      rcases List.mem_cons.1 hx with rfl | hx
      · exact Nat.le_trans (Nat.le_max_right _ _) h1
      · exact h2 x hx
  exact fun l x hx => (key l 0).2 x hx
/-- A list of results by where it is, how long, and with which room. -/
structure Rl where
  o : Option Addr
  n : Nat
  c : Nat
abbrev Pk : Type := Addr × Nat
def pk (x : Rl) : Pk := (x.o.getD ⟨0, 0, none⟩, x.n)
/-- The list whose slice lies at a place. -/
def slR (w : World) (b p : Nat) : List Rl := match w.cell? ⟨b, p, none⟩ with
  | some (.slice o n c) => if n = 0 then [] else [⟨o, n, c⟩]
  | _ => []
/-- The lists that lie in the first i elements. -/
def upto (w : World) (b off i : Nat) : List Rl := (List.range i).flatMap fun j => slR w b (off + j * 4 + 3)
theorem upto_succ (w : World) (b off i : Nat) : upto w b off (i + 1) = upto w b off i ++ slR w b (off + i * 4 + 3) := by
  unfold upto
  rw [List.range_succ, List.flatMap_append]
  simp
theorem upto_le (w : World) (b off i n : Nat) (h : i ≤ n) : upto w b off i <+: upto w b off n := by
  obtain ⟨d, rfl⟩ := Nat.exists_eq_add_of_le h
  induction d with
  | zero => exact List.prefix_rfl
  | succ d ih => exact (ih (by omega)).trans (by rw [show i + (d + 1) = (i + d) + 1 by omega, upto_succ]; exact List.prefix_append _ _)
/-- The lists that lie in a list. -/
def kids (w : World) (x : Rl) : List Rl := match x.o with
  | some a => upto w a.block a.off x.n
  | none => []
/-- In a list of this place stand these trees. -/
def Rd (K : Nat → Prop) (w : World) (h : Nat) (x : Rl) (xs : List Tr) : Prop := xs ≠ [] ∧ x.n = xs.length ∧ Fits xs.length x.c ∧ RowOf K w (tyR K w h) 4 x.o xs
section
variable {K : Nat → Prop} {w : World}
theorem Rd.at {h : Nat} {x : Rl} {xs : List Tr} (hr : Rd K w h x xs) : ∃ b off, x.o = some ⟨b, off, none⟩ ∧ K b ∧ b < w.heap.size ∧ ∀ j t, xs[j]? = some t → ∃ cs, cs.length = 4 ∧ (∀ q u, cs[q]? = some u → w.cell? ⟨b, off + j * 4 + q, none⟩ = some u) ∧ tyR K w h t cs := by
  obtain ⟨h1, h2, h3, h4⟩ := hr
  obtain ⟨b, off, e1, e2, e3, e4⟩ := h4 h1
  exact ⟨b, off, e1, e2, e3, e4⟩
/-- One element's list. -/
theorem one_rd {h b p : Nat} {t : Tr} {cs : List Value} (hc : ∀ q u, cs[q]? = some u → w.cell? ⟨b, p + q, none⟩ = some u) (hr : tyR K w (h + 1) t cs) :
    (t.l = [] ∧ slR w b (p + 3) = []) ∨ (t.l ≠ [] ∧ ∃ y, slR w b (p + 3) = [y] ∧ Rd K w h y t.l) := by
  obtain ⟨-, -, -, o1, c1, rfl, hs, hf, q1⟩ := hr
  have h3 := hc 3 (.slice o1 t.l.length c1) rfl
  unfold slR
  rw [h3]
  simp only
  by_cases hl : t.l = []
  · exact .inl ⟨hl, by rw [hl]; simp⟩
  · have hn : t.l.length ≠ 0 := fun e => hl (List.length_eq_zero_iff.1 e)
    rw [if_neg hn]
    exact .inr ⟨hl, _, rfl, hl, rfl, hf, q1⟩
/-- What the lists in a list are of. -/
def Two (K : Nat → Prop) (w : World) (h : Nat) (l : List Rl) (ts : List Tr) : Prop :=
  ∀ P : List Rl → List Tr → Prop, P [] [] → (∀ l ts t, t.l = [] → P l ts → P l (ts ++ [t])) → (∀ l ts t y, t.l ≠ [] → Rd K w h y t.l → P l ts → P (l ++ [y]) (ts ++ [t])) → P l ts
theorem Two.nil {h : Nat} : Two K w h [] [] := fun _ h1 _ _ => h1
theorem Two.skip {h : Nat} {l : List Rl} {ts : List Tr} {t : Tr} (h0 : t.l = []) (ht : Two K w h l ts) : Two K w h l (ts ++ [t]) := fun P h1 h2 h3 => h2 _ _ _ h0 (ht P h1 h2 h3)
theorem Two.snoc {h : Nat} {l : List Rl} {ts : List Tr} {t : Tr} {y : Rl} (h0 : t.l ≠ []) (hr : Rd K w h y t.l) (ht : Two K w h l ts) : Two K w h (l ++ [y]) (ts ++ [t]) := fun P h1 h2 h3 => h3 _ _ _ _ h0 hr (ht P h1 h2 h3)
theorem Rd.two {h : Nat} {x : Rl} {xs : List Tr} (hr : Rd K w h x xs) : ∃ h', h = h' + 1 ∧ Two K w h' (kids w x) xs := by
  have hx := hr
  obtain ⟨b, off, e1, -, -, e4⟩ := hr.at
  cases h with
  | zero =>
    obtain ⟨t, ht⟩ : ∃ t, xs[0]? = some t := by
      cases xs with
      | nil => exact absurd rfl hx.1
      | cons t r => exact ⟨t, rfl⟩
    obtain ⟨cs, -, -, hf⟩ := e4 0 t ht
    exact hf.elim
  | succ h =>
    refine ⟨h, rfl, ?_⟩
    unfold kids
    rw [e1, hx.2.1]
    simp only
    have key : ∀ n, n ≤ xs.length → Two K w h (upto w b off n) (xs.take n) := by
      intro n
      induction n with
      | zero => intro _; exact .nil
      | succ n ih =>
        intro hn
        have h1 : xs[n]? = some xs[n] := List.getElem?_eq_getElem (by omega)
        obtain ⟨cs, -, c1, c2⟩ := e4 n _ h1
        rw [upto_succ, List.take_add_one, h1]
        rcases one_rd c1 c2 with ⟨d1, d2⟩ | ⟨d1, y, d2, d3⟩
        · rw [d2, List.append_nil]
          exact .skip d1 (ih (by omega))
        · rw [d2]
          exact .snoc d1 d3 (ih (by omega))
    have h2 := key xs.length (Nat.le_refl _)
    rw [List.take_length] at h2
    exact h2
theorem Two.mem {h : Nat} {l : List Rl} {ts : List Tr} (ht : Two K w h l ts) : ∀ y ∈ l, ∃ t ∈ ts, Rd K w h y t.l := by
  refine ht (fun l ts => ∀ y ∈ l, ∃ t ∈ ts, Rd K w h y t.l) (fun y hy => (by cases hy)) (fun l ts t _ ih y hy => ?_) (fun l ts t z _ hr ih y hy => ?_)
  · obtain ⟨t, h1, h2⟩ := ih y hy
    exact ⟨t, List.mem_append_left _ h1, h2⟩
  · rcases List.mem_append.1 hy with h1 | h1
    · obtain ⟨t, h2, h3⟩ := ih y h1
      exact ⟨t, List.mem_append_left _ h2, h3⟩
    · rw [List.mem_singleton.1 h1]
      exact ⟨_, by simp, hr⟩
/-- Something worked out of a list from the bottom up. -/
def fd (g : List Nat → Nat) (w : World) : Nat → Rl → Nat
  | 0, _ => g []
  | f + 1, x => g ((kids w x).map (fd g w f))
theorem fd_stable (g : List Nat → Nat) : ∀ h x xs, Rd K w h x xs → ∀ f, h ≤ f → fd g w f x = fd g w h x := by
  intro h
  induction h with
  | zero =>
    intro x xs hr
    obtain ⟨h', e, -⟩ := hr.two
    cases e
  | succ h ih =>
    intro x xs hr f hf
    obtain ⟨f, rfl⟩ : ∃ f', f = f' + 1 := ⟨f - 1, by omega⟩
    obtain ⟨h', e, ht⟩ := hr.two
    cases e
    show g _ = g _
    congr 1
    refine List.map_congr_left fun y hy => ?_
    obtain ⟨t, -, hy2⟩ := ht.mem y hy
    exact ih y _ hy2 f (by omega)
def gD (l : List Nat) : Nat := mx l + 1
def gW (l : List Nat) : Nat := l.sum + 1
theorem fd_dep : ∀ h x xs, Rd K w h x xs → fd gD w h x = mx (xs.map (dep h)) := by
  intro h
  induction h with
  | zero =>
    intro x xs hr
    obtain ⟨h', e, -⟩ := hr.two
    cases e
  | succ h ih =>
    intro x xs hr
    obtain ⟨h', e, ht⟩ := hr.two
    cases e
    show mx ((kids w x).map (fd gD w h)) + 1 = _
    have key : ∀ l ts, Two K w h l ts → max 1 (mx (ts.map (dep (h + 1)))) = mx (l.map (fd gD w h)) + 1 := by
      intro l ts ht
      refine ht (fun l ts => max 1 (mx (ts.map (dep (h + 1)))) = mx (l.map (fd gD w h)) + 1) rfl (fun l ts t h1 ih2 => ?_) (fun l ts t y h1 h2 ih2 => ?_)
      · rw [List.map_append, List.map_cons, List.map_nil, mx_snoc, ← ih2]
        have e : dep (h + 1) t = 1 := by show mx (t.l.map (dep h)) + 1 = 1; rw [h1]; rfl
        rw [e]
        omega
      · rw [List.map_append, List.map_cons, List.map_nil, mx_snoc, List.map_append, List.map_cons, List.map_nil, mx_snoc, ih y _ h2]
        have e : dep (h + 1) t = mx (t.l.map (dep h)) + 1 := rfl
        rw [e]
        omega
    have h1 := key _ _ ht
    obtain ⟨t, hxs⟩ : ∃ t, t ∈ xs := List.exists_mem_of_ne_nil _ hr.1
    have h2 := le_mx _ (dep (h + 1) t) (List.mem_map_of_mem hxs)
    have h3 : dep (h + 1) t = mx (t.l.map (dep h)) + 1 := rfl
    omega
theorem fd_wt : ∀ h x xs, Rd K w h x xs → fd gW w h x ≤ lw (wty h) xs := by
  intro h
  induction h with
  | zero =>
    intro x xs hr
    obtain ⟨h', e, -⟩ := hr.two
    cases e
  | succ h ih =>
    intro x xs hr
    obtain ⟨h', e, ht⟩ := hr.two
    cases e
    show ((kids w x).map (fd gW w h)).sum + 1 ≤ _
    have key : ∀ l ts, Two K w h l ts → (l.map (fd gW w h)).sum ≤ (ts.map (wty (h + 1))).sum := by
      intro l ts ht
      refine ht (fun l ts => (l.map (fd gW w h)).sum ≤ (ts.map (wty (h + 1))).sum) (Nat.le_refl _) (fun l ts t h1 ih2 => ?_) (fun l ts t y h1 h2 ih2 => ?_)
      · rw [List.map_append, List.sum_append]; omega
      · rw [List.map_append, List.sum_append, List.map_append, List.sum_append]
        have h4 := ih y _ h2
        have h5 : wty (h + 1) t = t.s.size + lw (wty h) t.l := rfl
        simp only [List.map_cons, List.map_nil, List.sum_cons, List.sum_nil]
        omega
    have h1 := key _ _ ht
    have h2 := List.length_pos_iff.2 hr.1
    unfold lw
    omega
end
/-- What is known of a list that is met: it can be read, up to a height. -/
def Sub (K : Nat → Prop) (w : World) (F : Nat) (x : Rl) : Prop := ∃ h xs, h ≤ F ∧ Rd K w h x xs ∧ lw (wty h) xs ≤ 2000000
/-- What a walk of lists wants of them. -/
structure Fam (kd : Rl → List Rl) (P : Rl → Prop) (dd ww : Rl → Nat) : Prop where
  sub : ∀ x y, P x → y ∈ kd x → P y
  deep : ∀ x, P x → dd x = mx ((kd x).map dd) + 1
  same : ∀ x y, P x → P y → pk x = pk y → kd x = kd y
  wt : ∀ x, P x → ww x = ((kd x).map ww).sum + 1
theorem Fam.less {kd : Rl → List Rl} {P : Rl → Prop} {dd ww : Rl → Nat} (f : Fam kd P dd ww) {x y : Rl} (hx : P x) (hy : y ∈ kd x) : dd y < dd x := by
  have h1 := f.deep x hx
  have h2 := le_mx _ (dd y) (List.mem_map_of_mem hy)
  omega
theorem sub_kid {K : Nat → Prop} {w : World} {F : Nat} {x y : Rl} (h : Sub K w F x) (hy : y ∈ kids w x) : Sub K w F y := by
  obtain ⟨h, xs, hF, hr, hw⟩ := h
  obtain ⟨h', rfl, ht⟩ := hr.two
  obtain ⟨t, hm, hys⟩ := ht.mem y hy
  refine ⟨h', t.l, by omega, hys, ?_⟩
  have h1 := le_sum (wty (h' + 1)) xs t hm
  have h2 : wty (h' + 1) t = t.s.size + lw (wty h') t.l := rfl
  unfold lw at hw h2 ⊢
  omega
theorem fd_step {K : Nat → Prop} {w : World} {F : Nat} (g : List Nat → Nat) {x : Rl} (h : Sub K w F x) : fd g w F x = g ((kids w x).map (fd g w F)) := by
  obtain ⟨h, xs, hF, hr, -⟩ := h
  rw [fd_stable g h x xs hr F hF]
  obtain ⟨h', rfl, ht⟩ := hr.two
  show g _ = g _
  congr 1
  refine List.map_congr_left fun y hy => ?_
  obtain ⟨t, -, hys⟩ := ht.mem y hy
  exact (fd_stable g h' y _ hys F (by omega)).symm
/-- No list is deeper than the bound. -/
theorem sub_le {K : Nat → Prop} {w : World} {F : Nat} {x : Rl} (h : Sub K w F x) : fd gD w F x ≤ 2000001 := by
  obtain ⟨h, xs, hF, hr, hw⟩ := h
  rw [fd_stable gD h x xs hr F hF, fd_dep h x xs hr]
  refine fold_le _ 0 (Nat.zero_le _) fun y hy => ?_
  obtain ⟨t, ht, rfl⟩ := List.mem_map.1 hy
  have h1 := dep_le h t
  have h2 := le_sum (wty h) xs t ht
  unfold lw at hw
  omega
theorem fd_c (g : List Nat → Nat) (w : World) (F : Nat) (o : Option Addr) (n c c' : Nat) : fd g w F ⟨o, n, c⟩ = fd g w F ⟨o, n, c'⟩ := by
  cases F with
  | zero => rfl
  | succ F => rfl
/-- How deep the list at a place is. -/
def dpl (w : World) (F : Nat) (k : Pk) : Nat := fd gD w F ⟨some k.1, k.2, 0⟩
theorem fam (K : Nat → Prop) (w : World) (F : Nat) : Fam (kids w) (Sub K w F) (fd gD w F) (fd gW w F) := by
  refine ⟨fun x y hx hy => sub_kid hx hy, fun x hx => fd_step gD hx, fun x y hx hy hp => ?_, fun x hx => fd_step gW hx⟩
  obtain ⟨_, _, _, r1, -⟩ := hx
  obtain ⟨_, _, _, r2, -⟩ := hy
  obtain ⟨b1, o1, e1, -⟩ := r1.at
  obtain ⟨b2, o2, e2, -⟩ := r2.at
  unfold pk at hp
  unfold kids
  rw [e1, e2] at hp ⊢
  simp only [Option.getD_some, Prod.mk.injEq] at hp
  rw [hp.2, hp.1]
theorem dpl_pk {K : Nat → Prop} {w : World} {F : Nat} {x : Rl} (h : Sub K w F x) : dpl w F (pk x) = fd gD w F x := by
  obtain ⟨_, _, _, r1, -⟩ := h
  obtain ⟨b, off, e, -⟩ := r1.at
  obtain ⟨o, n, c⟩ := x
  simp only at e
  subst e
  exact fd_c gD w F _ n 0 c
end Go.Proofs.Ytifambhfggodaaa.Rs

/- Depth's walk of the lists upwards, plainly: each list behind all in it. -/
import Derived.Test.YtifambhfggodaaaZVB
namespace Go.Proofs.Ytifambhfggodaaa.Rs
open Go.RowKit Go.Proofs.Ytifambhfggodaaa.Vo
set_option linter.unusedVariables false

/-- Those that are not among ks. -/
def fresh (ks : List Pk) (l : List Rl) : List Rl := l.filter fun y => decide (pk y ∉ ks)
theorem fresh_snoc (ks : List Pk) (l : List Rl) (y : Rl) : fresh ks (l ++ [y]) = fresh ks l ++ if pk y ∈ ks then [] else [y] := by
  unfold fresh
  rw [List.filter_append]
  congr 1
  by_cases h : pk y ∈ ks <;> simp [h]
/-- How many steps are left at most. -/
def cost (ww : Rl → Nat) (bs : List Pk) (l : List Rl) : Nat := (l.map fun x => if pk x ∈ bs then 1 else 2 * ww x).sum
/-- What is left, what has begun, what has ended. -/
structure DI (kd : Rl → List Rl) (P : Rl → Prop) (dd : Rl → Nat) (root : Rl) (left ys : List Rl) (bs es : List Pk) : Prop where
  p : ∀ x ∈ left, P x
  py : ∀ z ∈ ys, P z
  e : ∀ k, k ∈ es ↔ ∃ z ∈ ys, pk z = k
  b : ∀ k ∈ bs, ∃ z, P z ∧ pk z = k
  i1 : ∀ a x c, left = a ++ x :: c → pk x ∈ bs → ∀ y ∈ kd x, pk y ∈ es ∨ ∃ z ∈ c, pk z = pk y
  i2 : ∀ k ∈ bs, k ∈ es ∨ ∃ a x c, left = a ++ x :: c ∧ pk x = k ∧ ∀ z ∈ c, dd z < dd x
  root : pk root ∈ es ∨ ∃ z ∈ left, pk z = pk root
section
variable {kd : Rl → List Rl} {P : Rl → Prop} {dd ww : Rl → Nat} {root : Rl} {left ys : List Rl} {bs es : List Pk} {x : Rl}
theorem DI.start (hP : P root) : DI kd P dd root [root] [] [] [] :=
  ⟨fun x hx => by rw [List.mem_singleton.1 hx]; exact hP, fun z hz => (by cases hz), fun k => ⟨fun h => (by cases h), fun ⟨z, hz, _⟩ => (by cases hz)⟩, fun k hk => (by cases hk), fun a x c _ h => (by cases h), fun k hk => (by cases hk), .inr ⟨root, by simp, rfl⟩⟩
theorem DI.done (h : DI kd P dd root [] ys bs es) : ∃ z ∈ ys, pk z = pk root := by
  rcases h.root with h1 | ⟨z, hz, -⟩
  · exact (h.e _).1 h1
  · cases hz
/-- The last one begins. -/
theorem DI.begin (f : Fam kd P dd ww) (h : DI kd P dd root (left ++ [x]) ys bs es) (hx : pk x ∉ bs) :
    DI kd P dd root (left ++ [x] ++ fresh (addK bs (pk x)) (kd x)) ys (addK bs (pk x)) es ∧ cost ww (addK bs (pk x)) (left ++ [x] ++ fresh (addK bs (pk x)) (kd x)) < cost ww bs (left ++ [x]) := by
  have hPx : P x := h.p x (by simp)
  have hfm : ∀ y, y ∈ fresh (addK bs (pk x)) (kd x) ↔ y ∈ kd x ∧ pk y ∉ addK bs (pk x) := fun y => by unfold fresh; simp
  -- a list within that has begun has ended
  have hend : ∀ y ∈ kd x, pk y ∈ addK bs (pk x) → pk y ∈ es := by
    intro y hy hb
    have hl := f.less hPx hy
    rcases (mem_addK _ _ _).1 hb with hb | hb
    · rcases h.i2 _ hb with h1 | ⟨a, z, c, e1, e2, e3⟩
      · exact h1
      · exfalso
        have hPz : P z := h.p z (by rw [e1]; simp)
        have hPy := f.sub x y hPx hy
        have hdz : dd z = dd y := by
          rw [f.deep z hPz, f.deep y hPy, f.same z y hPz hPy e2]
        rcases List.eq_nil_or_concat c with rfl | ⟨c', u, rfl⟩
        · have h9 : x = z := by
            have := congrArg List.getLast? e1
            simpa using this
          rw [← h9] at e2
          exact hx (e2 ▸ hb)
        · have h9 : x = u := by
            rw [List.concat_eq_append, ← List.cons_append, ← List.append_assoc] at e1
            simpa using (List.append_inj' e1 rfl).2
          have := e3 x (by rw [h9]; simp)
          omega
    · exfalso
      have hPy := f.sub x y hPx hy
      have : dd y = dd x := by rw [f.deep y hPy, f.deep x hPx, f.same y x hPy hPx hb]
      omega
  refine ⟨⟨fun y hy => ?_, h.py, h.e, fun k hk => ?_, ?_, fun k hk => ?_, ?_⟩, ?_⟩
  · rcases List.mem_append.1 hy with h1 | h1
    · exact h.p y h1
    · exact f.sub x y hPx ((hfm y).1 h1).1
  · rcases (mem_addK _ _ _).1 hk with h1 | h1
    · exact h.b k h1
    · exact ⟨x, hPx, h1.symm⟩
  · intro a z c e1 hz y hy
    rcases List.append_eq_append_iff.1 e1 with ⟨d, e2, e3⟩ | ⟨d, e2, e3⟩
    · -- z stands among the new ones
      have hz2 : z ∈ fresh (addK bs (pk x)) (kd x) := by rw [e3]; simp
      exact absurd hz ((hfm z).1 hz2).2
    · cases d with
      | nil =>
        have hz2 : z ∈ fresh (addK bs (pk x)) (kd x) := by simp at e3; rw [← e3]; simp
        exact absurd hz ((hfm z).1 hz2).2
      | cons z' d =>
        simp only [List.cons_append, List.cons.injEq] at e3
        obtain ⟨rfl, e3⟩ := e3
        by_cases hzx : pk z = pk x
        · have hPz : P z := h.p z (by rw [e2]; simp)
          have hk : kd z = kd x := f.same z x hPz hPx hzx
          rw [hk] at hy
          by_cases hb : pk y ∈ addK bs (pk x)
          · exact .inl (hend y hy hb)
          · exact .inr ⟨y, by rw [e3]; exact List.mem_append_right _ ((hfm y).2 ⟨hy, hb⟩), rfl⟩
        · have hzb : pk z ∈ bs := ((mem_addK _ _ _).1 hz).resolve_right hzx
          rcases h.i1 a z d e2 hzb y hy with h1 | ⟨u, hu, eu⟩
          · exact .inl h1
          · exact .inr ⟨u, by rw [e3]; exact List.mem_append_left _ hu, eu⟩
  · rcases (mem_addK _ _ _).1 hk with h1 | h1
    · rcases h.i2 k h1 with h2 | ⟨a, z, c, e1, e2, e3⟩
      · exact .inl h2
      · refine .inr ⟨a, z, c ++ fresh (addK bs (pk x)) (kd x), by rw [e1]; simp, e2, fun u hu => ?_⟩
        rcases List.mem_append.1 hu with hu | hu
        · exact e3 u hu
        · have hl := f.less hPx ((hfm u).1 hu).1
          rcases List.eq_nil_or_concat c with rfl | ⟨c', v, rfl⟩
          · have h9 : x = z := by
              have := congrArg List.getLast? e1
              simpa using this
            rw [← h9] at e2
            exact absurd (e2 ▸ h1) hx
          · have h9 : x = v := by
              rw [List.concat_eq_append, ← List.cons_append, ← List.append_assoc] at e1
              simpa using (List.append_inj' e1 rfl).2
            have := e3 x (by rw [h9]; simp)
            omega
    · refine .inr ⟨left, x, fresh (addK bs (pk x)) (kd x), by simp, h1.symm, fun u hu => f.less hPx ((hfm u).1 hu).1⟩
  · rcases h.root with h1 | ⟨z, hz, ez⟩
    · exact .inl h1
    · exact .inr ⟨z, List.mem_append_left _ hz, ez⟩
  · have hm : ∀ l : List Rl, (∀ y ∈ l, P y) → cost ww (addK bs (pk x)) l ≤ cost ww bs l := by
      intro l
      induction l with
      | nil => intro _; exact Nat.le_refl _
      | cons y l ih =>
        intro hl
        have h1 := ih fun z hz => hl z (by simp [hz])
        have h2 : (if pk y ∈ addK bs (pk x) then 1 else 2 * ww y) ≤ if pk y ∈ bs then 1 else 2 * ww y := by
          have := f.wt y (hl y (by simp))
          by_cases h3 : pk y ∈ bs
          · rw [if_pos h3, if_pos ((mem_addK _ _ _).2 (.inl h3))]
            exact Nat.le_refl _
          · rw [if_neg h3]
            split <;> omega
        unfold cost at h1 ⊢
        simp only [List.map_cons, List.sum_cons]
        omega
    have hk : ∀ l : List Rl, cost ww (addK bs (pk x)) (fresh (addK bs (pk x)) l) ≤ 2 * (l.map ww).sum := by
      intro l
      induction l with
      | nil => exact Nat.le_refl _
      | cons y l ih =>
        unfold fresh at ih ⊢
        rw [List.filter_cons]
        split
        · rename_i h3
          have h3' : pk y ∉ addK bs (pk x) := by simpa using h3
          unfold cost at ih ⊢
          simp only [List.map_cons, List.sum_cons]
          rw [if_neg h3']
          omega
        · simp only [List.map_cons, List.sum_cons]
          omega
    have h1 := hm left fun y hy => h.p y (by simp [hy])
    have h2 := hk (kd x)
    have h3 := f.wt x hPx
    unfold cost at h1 h2 ⊢
    simp only [List.map_append, List.sum_append, List.map_cons, List.map_nil, List.sum_cons, List.sum_nil]
    rw [if_pos ((mem_addK bs (pk x) (pk x)).2 (.inr rfl)), if_neg hx]
    omega
/-- All in the last one has ended, if it has begun. -/
theorem DI.within (h : DI kd P dd root (left ++ [x]) ys bs es) (hx : pk x ∈ bs) : ∀ y ∈ kd x, ∃ z ∈ ys, pk z = pk y := by
  intro y hy
  rcases h.i1 left x [] rfl hx y hy with h1 | ⟨z, hz, -⟩
  · exact (h.e _).1 h1
  · cases hz
theorem DI.cost_pop (f : Fam kd P dd ww) (h : DI kd P dd root (left ++ [x]) ys bs es) : cost ww bs left < cost ww bs (left ++ [x]) := by
  have h1 := f.wt x (h.p x (by simp))
  unfold cost
  simp only [List.map_append, List.sum_append, List.map_cons, List.map_nil, List.sum_cons, List.sum_nil]
  split <;> omega
theorem DI.pop' {ys' : List Rl} {es' : List Pk} (h : DI kd P dd root (left ++ [x]) ys bs es) (hee : ∀ k, k ∈ es' ↔ k ∈ es ∨ k = pk x) (hpy : ∀ z ∈ ys', P z) (he : ∀ k, k ∈ es' ↔ ∃ z ∈ ys', pk z = k) : DI kd P dd root left ys' bs es' := by
  refine ⟨fun y hy => h.p y (by simp [hy]), hpy, he, h.b, fun a z c e1 hz y hy => ?_, fun k hk => ?_, ?_⟩
  · rcases h.i1 a z (c ++ [x]) (by rw [e1]; simp) hz y hy with h1 | ⟨u, hu, eu⟩
    · exact .inl ((hee _).2 (.inl h1))
    · rcases List.mem_append.1 hu with h2 | h2
      · exact .inr ⟨u, h2, eu⟩
      · rw [List.mem_singleton] at h2
        exact .inl ((hee _).2 (.inr (by rw [← eu, h2])))
  · rcases h.i2 k hk with h1 | ⟨a, z, c, e1, e2, e3⟩
    · exact .inl ((hee _).2 (.inl h1))
    · rcases List.eq_nil_or_concat c with rfl | ⟨c', v, rfl⟩
      · have h9 : x = z := by
          have := congrArg List.getLast? e1
          simpa using this
        exact .inl ((hee _).2 (.inr (by rw [← e2, h9])))
      · rw [List.concat_eq_append, ← List.cons_append, ← List.append_assoc] at e1
        have h9 := List.append_inj' e1 rfl
        exact .inr ⟨a, z, c', h9.1, e2, fun u hu => e3 u (by simp [hu])⟩
  · rcases h.root with h1 | ⟨z, hz, ez⟩
    · exact .inl ((hee _).2 (.inl h1))
    · rcases List.mem_append.1 hz with h2 | h2
      · exact .inr ⟨z, h2, ez⟩
      · rw [List.mem_singleton] at h2
        exact .inl ((hee _).2 (.inr (by rw [← ez, h2])))
/-- The last one ends. -/
theorem DI.fin (h : DI kd P dd root (left ++ [x]) ys bs es) : DI kd P dd root left (ys ++ [x]) bs (addK es (pk x)) := by
  refine h.pop' (mem_addK es (pk x)) (fun z hz => ?_) fun k => ?_
  · rcases List.mem_append.1 hz with h1 | h1
    · exact h.py z h1
    · rw [List.mem_singleton.1 h1]
      exact h.p x (by simp)
  · rw [mem_addK, h.e]
    constructor
    · rintro (⟨z, hz, ez⟩ | rfl)
      · exact ⟨z, by simp [hz], ez⟩
      · exact ⟨x, by simp, rfl⟩
    · rintro ⟨z, hz, ez⟩
      rcases List.mem_append.1 hz with h1 | h1
      · exact .inl ⟨z, h1, ez⟩
      · rw [List.mem_singleton] at h1
        exact .inr (by rw [← ez, h1])
/-- The last one has ended already. -/
theorem DI.again (h : DI kd P dd root (left ++ [x]) ys bs es) (hx : pk x ∈ es) : DI kd P dd root left ys bs es :=
  h.pop' (fun k => ⟨.inl, fun h1 => h1.elim id fun e => e ▸ hx⟩) h.py h.e
end
end Go.Proofs.Ytifambhfggodaaa.Rs

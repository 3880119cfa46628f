/- The parts of what stands at a place. -/
import Derived.Test.YtlaeenfeajkcfalGreatVL
import Derived.Test.YtlaeenfeajkcfalGreatVK
namespace Go.Proofs.YtlaeenfeajkcfalGreat.Fr
open Go.ChangeShapes Go.WideShapes Go.ChangeAt Go.RowKit Go.Proofs.YtlaeenfeajkcfalGreat.Nm
set_option linter.unusedVariables false

theorem sum_mem_le (f : Tr → Nat) : ∀ (l : List Tr) (x : Tr), x ∈ l → f x ≤ (l.map f).sum := by
  intro l
  induction l with
  | nil => intro x hx; cases hx
  | cons a r ih =>
    intro x hx
    simp only [List.map_cons, List.sum_cons]
    rcases List.mem_cons.1 hx with rfl | hx
    · omega
    · have := ih x hx
      omega
theorem sum_one (f : Tr → Nat) (xs : List Tr) : (xs.map fun c => 1 + f c).sum = xs.length + (xs.map f).sum := by
  induction xs with
  | nil => rfl
  | cons x r ih => simp only [List.map_cons, List.sum_cons, List.length_cons, ih]; omega
section
variable {w : World} {K : Nat → Prop}
theorem ex_at {o : Option Addr} {xs : List Tr} {h : Nat} (hx : RowOf K w (reads K w h).ex 6 o xs) (i : Nat) (x : Tr) (hi : xs[i]? = some x) : (⟨bOf o, fOf o + i * 6 + 0, none⟩ : Addr) ∈ rowA o 6 0 xs.length ∧ AtP w K (true, ⟨bOf o, fOf o + i * 6 + 0, none⟩) h x :=
  row_at (b := true) (d := 0) hx (fun a x cs hs hk hc hl hr c e => by subst e; exact ⟨rfl, hk, cs, hc, hl, hr⟩) i x hi
theorem de_at {o : Option Addr} {xs : List Tr} {h : Nat} (hx : RowOf K w (reads K w h).de 9 o xs) (i : Nat) (x : Tr) (hi : xs[i]? = some x) : (⟨bOf o, fOf o + i * 9 + 0, none⟩ : Addr) ∈ rowA o 9 0 xs.length ∧ AtP w K (false, ⟨bOf o, fOf o + i * 9 + 0, none⟩) h x :=
  row_at (b := false) (d := 0) hx (fun a x cs hs hk hc hl hr c e => by subst e; exact ⟨rfl, hk, cs, hc, hl, hr⟩) i x hi
theorem al_at {o : Option Addr} {xs : List Tr} {h : Nat} (hx : RowOf K w (reads K w h).al 8 o xs) (i : Nat) (x : Tr) (hi : xs[i]? = some x) : ∃ e h', x.l = [e] ∧ h = h' + 1 ∧ (⟨bOf o, fOf o + i * 8 + 2, none⟩ : Addr) ∈ rowA o 8 2 xs.length ∧ AtP w K (true, ⟨bOf o, fOf o + i * 8 + 2, none⟩) h' e := by
  have hlt := (List.getElem?_eq_some_iff.1 hi).1
  obtain ⟨bb, off, rfl, kb, -, hc⟩ := hx (fun e => by rw [e] at hlt; cases hlt)
  obtain ⟨cs, hl, hcell, hr⟩ := hc i x hi
  cases h with
  | zero => exact hr.elim
  | succ h =>
    obtain ⟨-, -, -, -, e, p1, g1, ce, e0, e1, -, -, -, e5, s2⟩ := hr
    refine ⟨e, h, e0, rfl, List.mem_map.2 ⟨i, List.mem_range.2 hlt, rfl⟩, rfl, kb, ce, fun j u hu => ?_, e5, s2⟩
    have h9 := hcell (2 + j) u (by rw [e1, List.getElem?_append_right (by show 2 ≤ _; omega)]; show ce[2 + j - 2]? = some u; rw [Nat.add_sub_cancel_left]; exact hu)
    have e9 : off + i * 8 + (2 + j) = off + i * 8 + 2 + j := by omega
    rw [e9] at h9
    exact h9
/-- The parts of an expression at a place. -/
theorem exp_kids {a : Addr} {h : Nat} {t : Tr} {cs : List Value} {o1 o2 o3 : Option Addr} {R : ByteArray → Prop} (hr : (reads K w (h + 1)).ex t cs) (h1 : ∃ c1, cs[3]? = some (.slice o1 t.l.length c1)) (h2 : ∃ c2, cs[4]? = some (.slice o2 t.ds.length c2)) (h3 : ∃ c3, cs[5]? = some (.slice o3 t.al.length c3)) (hat : AtP w K (true, a) (h + 1) t) (hR : ∀ y, (bnd (h + 1)).ex t y → R y) {N : Nat} (hNN : (wgt (h + 1)).ex t ≤ N) :
    (∃ m, Bud w K R (kidsE o1 o2 o3 t.l.length t.ds.length t.al.length) m ∧ m + 1 + (t.l.length + t.ds.length + t.al.length) ≤ (wgt (h + 1)).ex t) ∧
    (∀ ks, (∀ k ∈ kidsE o1 o2 o3 t.l.length t.ds.length t.al.length, k ∈ ks) → Kids w K ks (true, a)) ∧ (∀ k ∈ kidsE o1 o2 o3 t.l.length t.ds.length t.al.length, Snd w K R N k) := by
  obtain ⟨-, p1, d1, p2, d2, p3, d3, rfl, -, -, -, -, r1, r2, r3⟩ := hr
  obtain ⟨c1, h1⟩ := h1
  obtain ⟨c2, h2⟩ := h2
  obtain ⟨c3, h3⟩ := h3
  simp only [List.getElem?_cons_succ, List.getElem?_cons_zero, Option.some.injEq, Value.slice.injEq, true_and] at h1 h2 h3
  obtain ⟨rfl, rfl⟩ := h1
  obtain ⟨rfl, rfl⟩ := h2
  obtain ⟨rfl, rfl⟩ := h3
  have hmem : ∀ k, k ∈ kidsE p1 p2 p3 t.l.length t.ds.length t.al.length ↔ k ∈ (rowA p1 6 0 t.l.length).map (fun a => (true, a)) ∨ k ∈ (rowA p2 9 0 t.ds.length).map (fun a => (false, a)) ∨ k ∈ (rowA p3 8 2 t.al.length).map (fun a => (true, a)) := fun k => by
    unfold kidsE
    rw [List.mem_append, List.mem_append, or_assoc]
  have hw : 1 + (t.l.length + (t.l.map (wgt h).ex).sum) + (t.ds.length + (t.ds.map (wgt h).de).sum) + (t.al.map (wgt h).al).sum ≤ N := by
    have e9 : (wgt (h + 1)).ex t = 1 + (t.l.map fun c => 1 + (wgt h).ex c).sum + (t.ds.map fun c => 1 + (wgt h).de c).sum + (t.al.map (wgt h).al).sum := rfl
    rw [e9, sum_one, sum_one] at hNN
    exact hNN
  refine ⟨?_, fun ks hks => ⟨h + 1, t, hat, fun c hc => ?_, fun c hc => ?_, fun al hal c hc => ?_⟩, fun k hk => ?_⟩
  · have b1 := rowBud (w := w) (K := K) (R := R) (o := p1) (sz := 6) (d := 0) (b := true) (wgt h).ex t.l (fun i x hi => ⟨h, x, ⟨(ex_at r1 i x hi).2, fun y hy => hR y (.inr (.inl ⟨x, List.mem_of_getElem? hi, hy⟩))⟩, Nat.le_refl _⟩)
    have b2 := rowBud (w := w) (K := K) (R := R) (o := p2) (sz := 9) (d := 0) (b := false) (wgt h).de t.ds (fun i x hi => ⟨h, x, ⟨(de_at r2 i x hi).2, fun y hy => hR y (.inr (.inr (.inr ⟨x, List.mem_of_getElem? hi, hy⟩)))⟩, Nat.le_refl _⟩)
    have b3 := rowBud (w := w) (K := K) (R := R) (o := p3) (sz := 8) (d := 2) (b := true) (fun x => (wgt h).al x - 1) t.al (fun i x hi => by
      obtain ⟨e, h', e1, e2, -, hat'⟩ := al_at r3 i x hi
      subst e2
      refine ⟨h', e, ⟨hat', fun y hy => hR y (.inr (.inr (.inl ⟨x, List.mem_of_getElem? hi, .inr ⟨e, by rw [e1]; simp, hy⟩⟩)))⟩, ?_⟩
      show (wgt h').ex e ≤ (x.ss.length + (x.l.map fun c => 1 + (wgt h').ex c).sum) - 1
      rw [e1]
      simp
      omega)
    refine ⟨_, (b1.join b2).join b3, ?_⟩
    have e3 : t.al.length + (t.al.map fun x => (wgt h).al x - 1).sum ≤ (t.al.map (wgt h).al).sum := by
      have h9 : ∀ x ∈ t.al, 1 ≤ (wgt h).al x := fun x hx => by
        obtain ⟨i, hi⟩ := List.mem_iff_getElem?.1 hx
        obtain ⟨e, h', e1, e2, -, hat'⟩ := al_at r3 i x hi
        subst e2
        show 1 ≤ x.ss.length + (x.l.map fun c => 1 + (wgt h').ex c).sum
        rw [e1]
        simp
        omega
      generalize t.al = l at h9
      clear b3
      induction l with
      | nil => simp
      | cons x r ih =>
        have h8 := ih fun y hy => h9 y (by simp [hy])
        have h7 := h9 x (by simp)
        simp only [List.map_cons, List.sum_cons, List.length_cons]
        omega
    show _ ≤ 1 + (t.l.map fun c => 1 + (wgt h).ex c).sum + (t.ds.map fun c => 1 + (wgt h).de c).sum + (t.al.map (wgt h).al).sum
    rw [sum_one, sum_one]
    omega
  · obtain ⟨i, hi⟩ := List.mem_iff_getElem?.1 hc
    obtain ⟨m1, m2⟩ := ex_at r1 i c hi
    exact ⟨_, hks _ ((hmem _).2 (.inl (List.mem_map.2 ⟨_, m1, rfl⟩))), rfl, h, m2⟩
  · obtain ⟨i, hi⟩ := List.mem_iff_getElem?.1 hc
    obtain ⟨m1, m2⟩ := de_at r2 i c hi
    exact ⟨_, hks _ ((hmem _).2 (.inr (.inl (List.mem_map.2 ⟨_, m1, rfl⟩)))), rfl, h, m2⟩
  · obtain ⟨i, hi⟩ := List.mem_iff_getElem?.1 hal
    obtain ⟨e, h', e1, e2, m1, m2⟩ := al_at r3 i al hi
    rw [e1, List.mem_singleton] at hc
    subst hc
    exact ⟨_, hks _ ((hmem _).2 (.inr (.inr (List.mem_map.2 ⟨_, m1, rfl⟩)))), rfl, h', m2⟩
  · rcases (hmem k).1 hk with hk | hk | hk
    · obtain ⟨b, hb, rfl⟩ := List.mem_map.1 hk
      obtain ⟨i, hi, rfl⟩ := List.mem_map.1 hb
      have hi2 := List.mem_range.1 hi
      exact ⟨h, _, (ex_at r1 i _ (List.getElem?_eq_getElem hi2)).2, fun y hy => hR y (.inr (.inl ⟨_, List.getElem_mem hi2, hy⟩)), (by have := sum_mem_le (wgt h).ex t.l _ (List.getElem_mem hi2); show (wgt h).ex _ ≤ N; omega)⟩
    · obtain ⟨b, hb, rfl⟩ := List.mem_map.1 hk
      obtain ⟨i, hi, rfl⟩ := List.mem_map.1 hb
      have hi2 := List.mem_range.1 hi
      exact ⟨h, _, (de_at r2 i _ (List.getElem?_eq_getElem hi2)).2, fun y hy => hR y (.inr (.inr (.inr ⟨_, List.getElem_mem hi2, hy⟩))), (by have := sum_mem_le (wgt h).de t.ds _ (List.getElem_mem hi2); show (wgt h).de _ ≤ N; omega)⟩
    · obtain ⟨b, hb, rfl⟩ := List.mem_map.1 hk
      obtain ⟨i, hi, rfl⟩ := List.mem_map.1 hb
      have hi2 := List.mem_range.1 hi
      obtain ⟨e, h', e1, e2, m1, m2⟩ := al_at r3 i _ (List.getElem?_eq_getElem hi2)
      have hs := sum_mem_le (wgt h).al t.al _ (List.getElem_mem hi2)
      refine ⟨h', e, m2, fun y hy => hR y (.inr (.inr (.inl ⟨_, List.getElem_mem hi2, ?_⟩))), ?_⟩
      · rw [e2]
        exact .inr ⟨e, by rw [e1]; simp, hy⟩
      · subst e2
        have e9 : (wgt (h' + 1)).al t.al[i] = (t.al[i]).ss.length + ((t.al[i]).l.map fun c => 1 + (wgt h').ex c).sum := rfl
        rw [e1] at e9
        simp at e9
        show (wgt h').ex e ≤ N
        omega
theorem dec_kids {a : Addr} {h : Nat} {t : Tr} {cs : List Value} {o2 : Option Addr} {R : ByteArray → Prop} (hca : CellsA w a cs) (hab : K a.block) (hr : (reads K w (h + 1)).de t cs) (h2 : ∃ c2, cs[8]? = some (.slice o2 t.ds.length c2)) (hat : AtP w K (false, a) (h + 1) t) (hR : ∀ y, (bnd (h + 1)).de t y → R y) {N : Nat} (hNN : (wgt (h + 1)).de t ≤ N) :
    (∃ m, Bud w K R ((true, ⟨a.block, a.off + 2, none⟩) :: (rowA o2 9 0 t.ds.length).map fun a => (false, a)) m ∧ m + 1 + (1 + t.ds.length) ≤ (wgt (h + 1)).de t) ∧
    (∀ ks, (true, ⟨a.block, a.off + 2, none⟩) ∈ ks → (∀ b ∈ rowA o2 9 0 t.ds.length, (false, b) ∈ ks) → Kids w K ks (false, a)) ∧ (∀ k ∈ (true, ⟨a.block, a.off + 2, none⟩) :: (rowA o2 9 0 t.ds.length).map fun a => (false, a), Snd w K R N k) := by
  obtain ⟨-, -, z3, e, p1, d1, ce, p2, d2, el, rfl, -, -, -, r1, lc, re, r2⟩ := hr
  obtain ⟨c2, h2⟩ := h2
  obtain ⟨a0, a1, a2, a3, a4, a5, rfl⟩ := six lc
  have h2' : Value.slice p2 t.ds.length d2 = .slice o2 t.ds.length c2 := by simpa using h2
  simp only [Value.slice.injEq, true_and] at h2'
  obtain ⟨rfl, rfl⟩ := h2'
  have hE : AtP w K (true, ⟨a.block, a.off + 2, none⟩) h e := by
    refine ⟨rfl, hab, [a0, a1, a2, a3, a4, a5], fun j u hu => ?_, rfl, re⟩
    have h9 := hca (2 + j) u (by rw [List.append_assoc, List.getElem?_append_right (by show 2 ≤ _; omega)]; show ([a0, a1, a2, a3, a4, a5] ++ _)[2 + j - 2]? = some u; rw [Nat.add_sub_cancel_left, List.getElem?_append_left (List.getElem?_eq_some_iff.1 hu).1]; exact hu)
    have e9 : a.off + (2 + j) = a.off + 2 + j := by omega
    rw [e9] at h9
    exact h9
  have hw : 1 + t.ss.length + (1 + (wgt h).ex e) + (t.ds.length + (t.ds.map (wgt h).de).sum) ≤ N := by
    have e9 : (wgt (h + 1)).de t = 1 + t.ss.length + (t.l.map fun c => 1 + (wgt h).ex c).sum + (t.ds.map fun c => 1 + (wgt h).de c).sum := rfl
    rw [e9, sum_one, sum_one, el] at hNN
    simp at hNN
    omega
  refine ⟨?_, fun ks hk1 hk2 => ⟨h + 1, t, hat, fun c hc => ?_, fun c hc => ?_, fun al hal => ?_⟩, fun k hk => ?_⟩
  · have b2 := rowBud (w := w) (K := K) (R := R) (o := p2) (sz := 9) (d := 0) (b := false) (wgt h).de t.ds (fun i x hi => ⟨h, x, ⟨(de_at r2 i x hi).2, fun y hy => hR y (.inr (.inr (.inr ⟨x, List.mem_of_getElem? hi, hy⟩)))⟩, Nat.le_refl _⟩)
    refine ⟨(wgt h).ex e + (t.ds.map (wgt h).de).sum, ⟨h, e, _, ⟨hE, fun y hy => hR y (.inr (.inr (.inl ⟨e, by rw [el]; simp, hy⟩)))⟩, Nat.le_refl _, b2⟩, ?_⟩
    show _ ≤ 1 + t.ss.length + (t.l.map fun c => 1 + (wgt h).ex c).sum + (t.ds.map fun c => 1 + (wgt h).de c).sum
    rw [sum_one, sum_one, el]
    simp
    omega
  · rw [el, List.mem_singleton] at hc
    subst hc
    exact ⟨_, hk1, rfl, h, hE⟩
  · obtain ⟨i, hi⟩ := List.mem_iff_getElem?.1 hc
    obtain ⟨m1, m2⟩ := de_at r2 i c hi
    exact ⟨_, hk2 _ m1, rfl, h, m2⟩
  · rw [z3] at hal
    cases hal
  · rcases List.mem_cons.1 hk with rfl | hk
    · exact ⟨h, e, hE, fun y hy => hR y (.inr (.inr (.inl ⟨e, by rw [el]; simp, hy⟩))), (by show (wgt h).ex e ≤ N; omega)⟩
    · obtain ⟨b, hb, rfl⟩ := List.mem_map.1 hk
      obtain ⟨i, hi, rfl⟩ := List.mem_map.1 hb
      have hi2 := List.mem_range.1 hi
      exact ⟨h, _, (de_at r2 i _ (List.getElem?_eq_getElem hi2)).2, fun y hy => hR y (.inr (.inr (.inr ⟨_, List.getElem_mem hi2, hy⟩))), (by have := sum_mem_le (wgt h).de t.ds _ (List.getElem_mem hi2); show (wgt h).de _ ≤ N; omega)⟩
end
/-- What is a part of a tree, and what binds there. -/
def Part (b : Bool) (t : Tr) (b' : Bool) (c : Tr) (B : List ByteArray) : Prop := if b then (b' = true ∧ c ∈ t.l ∧ B = bE t) ∨ (b' = false ∧ c ∈ t.ds ∧ B = bD t) ∨ (b' = true ∧ ∃ a ∈ t.al, c ∈ a.l ∧ B = a.ss) else (b' = true ∧ c ∈ t.l ∧ B = t.ss ++ t.ds.map Tr.s) ∨ (b' = false ∧ c ∈ t.ds ∧ B = t.ss ++ t.ds.map Tr.s)
/-- A list of places, with what binds there: just the parts of a tree. -/
def KdOf (w : World) (K : Nat → Prop) (b : Bool) (t : Tr) (kd : List ((Bool × Addr) × List ByteArray)) : Prop := (∀ q ∈ kd, ∃ h' c, AtP w K q.1 h' c ∧ Part b t q.1.1 c q.2) ∧ (∀ b' c B, Part b t b' c B → ∃ q ∈ kd, q.1.1 = b' ∧ q.2 = B ∧ ∃ h', AtP w K q.1 h' c)
section
variable {w : World} {K : Nat → Prop}
theorem exp_kd {h : Nat} {t : Tr} {cs : List Value} {o1 o2 o3 : Option Addr} (hr : (reads K w (h + 1)).ex t cs) (h1 : ∃ c1, cs[3]? = some (.slice o1 t.l.length c1)) (h2 : ∃ c2, cs[4]? = some (.slice o2 t.ds.length c2)) (h3 : ∃ c3, cs[5]? = some (.slice o3 t.al.length c3)) : KdOf w K true t (kidsW o1 o2 o3 t) := by
  obtain ⟨-, p1, d1, p2, d2, p3, d3, rfl, -, -, -, -, r1, r2, r3⟩ := hr
  obtain ⟨c1, h1⟩ := h1
  obtain ⟨c2, h2⟩ := h2
  obtain ⟨c3, h3⟩ := h3
  simp only [List.getElem?_cons_succ, List.getElem?_cons_zero, Option.some.injEq, Value.slice.injEq, true_and] at h1 h2 h3
  obtain ⟨rfl, rfl⟩ := h1
  obtain ⟨rfl, rfl⟩ := h2
  obtain ⟨rfl, rfl⟩ := h3
  have hmem : ∀ k, k ∈ kidsW p1 p2 p3 t ↔ k ∈ (rowA p1 6 0 t.l.length).map (fun a => ((true, a), bE t)) ∨ k ∈ (rowA p2 9 0 t.ds.length).map (fun a => ((false, a), bD t)) ∨ k ∈ altK p3 t.al t.al.length := fun k => by
    unfold kidsW
    rw [List.mem_append, List.mem_append, or_assoc]
  refine ⟨fun q hq => ?_, fun b' c B hp => ?_⟩
  · rcases (hmem q).1 hq with hk | hk | hk
    · obtain ⟨b, hb, rfl⟩ := List.mem_map.1 hk
      obtain ⟨i, hi, rfl⟩ := List.mem_map.1 hb
      have hi2 := List.mem_range.1 hi
      exact ⟨h, _, (ex_at r1 i _ (List.getElem?_eq_getElem hi2)).2, .inl ⟨rfl, List.getElem_mem hi2, rfl⟩⟩
    · obtain ⟨b, hb, rfl⟩ := List.mem_map.1 hk
      obtain ⟨i, hi, rfl⟩ := List.mem_map.1 hb
      have hi2 := List.mem_range.1 hi
      exact ⟨h, _, (de_at r2 i _ (List.getElem?_eq_getElem hi2)).2, .inr (.inl ⟨rfl, List.getElem_mem hi2, rfl⟩)⟩
    · obtain ⟨i, hi, rfl⟩ := List.mem_map.1 hk
      have hi2 := List.mem_range.1 hi
      obtain ⟨e, h', e1, e2, m1, m2⟩ := al_at r3 i _ (List.getElem?_eq_getElem hi2)
      refine ⟨h', e, m2, .inr (.inr ⟨rfl, t.al[i], List.getElem_mem hi2, by rw [e1]; simp, ?_⟩)⟩
      show ((t.al.map Tr.ss)[i]?).getD [] = _
      rw [List.getElem?_map, List.getElem?_eq_getElem hi2]
      rfl
  · rcases hp with ⟨rfl, hc, rfl⟩ | ⟨rfl, hc, rfl⟩ | ⟨rfl, a, ha, hc, rfl⟩
    · obtain ⟨i, hi⟩ := List.mem_iff_getElem?.1 hc
      obtain ⟨m1, m2⟩ := ex_at r1 i c hi
      exact ⟨_, (hmem _).2 (.inl (List.mem_map.2 ⟨_, m1, rfl⟩)), rfl, rfl, h, m2⟩
    · obtain ⟨i, hi⟩ := List.mem_iff_getElem?.1 hc
      obtain ⟨m1, m2⟩ := de_at r2 i c hi
      exact ⟨_, (hmem _).2 (.inr (.inl (List.mem_map.2 ⟨_, m1, rfl⟩))), rfl, rfl, h, m2⟩
    · obtain ⟨i, hi⟩ := List.mem_iff_getElem?.1 ha
      have hlt := (List.getElem?_eq_some_iff.1 hi).1
      obtain ⟨e, h', e1, e2, m1, m2⟩ := al_at r3 i a hi
      rw [e1, List.mem_singleton] at hc
      subst hc
      refine ⟨((true, ⟨bOf p3, fOf p3 + i * 8 + 2, none⟩), ((t.al.map Tr.ss)[i]?).getD []), (hmem _).2 (.inr (.inr (List.mem_map.2 ⟨i, List.mem_range.2 hlt, rfl⟩))), rfl, ?_, h', m2⟩
      show ((t.al.map Tr.ss)[i]?).getD [] = _
      rw [List.getElem?_map, hi]
      rfl
theorem dec_kd {a : Addr} {h : Nat} {t : Tr} {cs : List Value} {o2 : Option Addr} (hca : CellsA w a cs) (hab : K a.block) (hr : (reads K w (h + 1)).de t cs) (h2 : ∃ c2, cs[8]? = some (.slice o2 t.ds.length c2)) : KdOf w K false t (((true, ⟨a.block, a.off + 2, none⟩), t.ss ++ t.ds.map Tr.s) :: (rowA o2 9 0 t.ds.length).map fun a => ((false, a), t.ss ++ t.ds.map Tr.s)) := by
  obtain ⟨-, -, z3, e, p1, d1, ce, p2, d2, el, rfl, -, -, -, r1, lc, re, r2⟩ := hr
  obtain ⟨c2, h2⟩ := h2
  obtain ⟨a0, a1, a2, a3, a4, a5, rfl⟩ := six lc
  have h2' : Value.slice p2 t.ds.length d2 = .slice o2 t.ds.length c2 := by simpa using h2
  simp only [Value.slice.injEq, true_and] at h2'
  obtain ⟨rfl, rfl⟩ := h2'
  have hE : AtP w K (true, ⟨a.block, a.off + 2, none⟩) h e := by
    refine ⟨rfl, hab, [a0, a1, a2, a3, a4, a5], fun j u hu => ?_, rfl, re⟩
    have h9 := hca (2 + j) u (by rw [List.append_assoc, List.getElem?_append_right (by show 2 ≤ _; omega)]; show ([a0, a1, a2, a3, a4, a5] ++ _)[2 + j - 2]? = some u; rw [Nat.add_sub_cancel_left, List.getElem?_append_left (List.getElem?_eq_some_iff.1 hu).1]; exact hu)
    have e9 : a.off + (2 + j) = a.off + 2 + j := by omega
    rw [e9] at h9
    exact h9
  refine ⟨fun q hq => ?_, fun b' c B hp => ?_⟩
  · rcases List.mem_cons.1 hq with rfl | hk
    · exact ⟨h, e, hE, .inl ⟨rfl, by rw [el]; simp, rfl⟩⟩
    · obtain ⟨b, hb, rfl⟩ := List.mem_map.1 hk
      obtain ⟨i, hi, rfl⟩ := List.mem_map.1 hb
      have hi2 := List.mem_range.1 hi
      exact ⟨h, _, (de_at r2 i _ (List.getElem?_eq_getElem hi2)).2, .inr ⟨rfl, List.getElem_mem hi2, rfl⟩⟩
  · rcases hp with ⟨rfl, hc, rfl⟩ | ⟨rfl, hc, rfl⟩
    · rw [el, List.mem_singleton] at hc
      subst hc
      exact ⟨_, List.mem_cons_self .., rfl, rfl, h, hE⟩
    · obtain ⟨i, hi⟩ := List.mem_iff_getElem?.1 hc
      obtain ⟨m1, m2⟩ := de_at r2 i c hi
      exact ⟨_, List.mem_cons_of_mem _ (List.mem_map.2 ⟨_, m1, rfl⟩), rfl, rfl, h, m2⟩
end
/-- A place of a net, read. -/
theorem Net.place {KP KS : Nat → Prop} {w : World} {n : Nat} {ks : List (Bool × Addr)} {G : Log} (h : Net KP KS w n ks G) {i : Nat} {k : Bool × Addr} (hi : ks[i]? = some k) : ∃ g c ov nv cv, w.cell? ⟨n, 0, none⟩ = some (.slice (some ⟨g, 0, none⟩) ks.length c) ∧ ks.length ≤ c ∧
    w.cell? ⟨g, i * 4, none⟩ = some (.pointer (if k.1 then some k.2 else none)) ∧ w.cell? ⟨g, i * 4 + 1, none⟩ = some (.pointer (if k.1 then none else some k.2)) ∧ w.cell? ⟨g, i * 4 + 2, none⟩ = some (.slice ov nv cv) ∧ w.cell? ⟨g, i * 4 + 3, none⟩ = some (.int .i64 0) := by
  obtain ⟨l1, l2, pv, me, md, ws, h⟩ := h
  have hlt := (List.getElem?_eq_some_iff.1 hi).1
  obtain ⟨v, hv⟩ : ∃ v, ws[i]? = some v := ⟨ws[i]'(by rw [h.lenw]; exact hlt), List.getElem?_eq_getElem _⟩
  obtain ⟨xs, hown, -⟩ := h.way i v hv
  generalize (waysOf G i).length = m at hown
  obtain ⟨ov, cv, rfl⟩ := owns_form hown
  rcases h.row.2 with ⟨-, h9⟩ | ⟨g, cap, cur, rfl, -, hg, hn, -, -, htk⟩
  · omega
  · have key : ∀ j, j < 4 → ∀ u, (keyC k (.slice ov m cv))[j]? = some u → w.cell? ⟨g, i * 4 + j, none⟩ = some u := fun j hj u hu => owns_cell hg htk (i * 4 + j) (by omega) u (by rw [rowN_get ks ws i k _ hi hv j hj]; exact hu)
    refine ⟨g, cap, ov, m, cv, cell_of h.obj 0, hn, ?_, ?_, ?_, ?_⟩
    · exact key 0 (by omega) _ (by unfold keyC; split <;> rfl)
    · exact key 1 (by omega) _ (by unfold keyC; split <;> rfl)
    · exact key 2 (by omega) _ (by unfold keyC; split <;> rfl)
    · exact key 3 (by omega) _ (by unfold keyC; split <;> rfl)
theorem Net.len0 {KP KS : Nat → Prop} {w : World} {n : Nat} {ks : List (Bool × Addr)} {G : Log} (h : Net KP KS w n ks G) : ∃ o c, w.cell? ⟨n, 0, none⟩ = some (.slice o ks.length c) := by
  obtain ⟨l1, l2, pv, me, md, ws, h⟩ := h
  obtain ⟨o, c, e⟩ := owns_form h.row
  refine ⟨o, c, ?_⟩
  have h9 := cell_of h.obj 0
  rw [e] at h9
  exact h9
end Go.Proofs.YtlaeenfeajkcfalGreat.Fr

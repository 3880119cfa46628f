/- Names that are bound or asked for, at the places of a net. -/
import Derived.Test.YtihjpkldefllgakGreatBM
import Derived.Test.YtihjpkldefllgakGreatCA
namespace Go.Proofs.YtihjpkldefllgakGreat.Nm
open Go.ChangeShapes Go.WideShapes Go.ChangeAt Go.RowKit

/-- Which names are bound or asked for in it, `_` among them. -/
def bth : Nat → Bnds
  | 0 => ⟨fun _ _ => False, fun _ _ => False, fun _ _ => False⟩
  | h + 1 => ⟨fun e x => ((e.k = 5 ∨ e.k = 1) ∧ x = e.s) ∨ (∃ c ∈ e.l, (bth h).ex c x) ∨ (∃ a ∈ e.al, (bth h).al a x) ∨ (∃ d ∈ e.ds, (bth h).de d x),
     fun d x => x = d.s ∨ x ∈ d.ss ∨ (∃ c ∈ d.l, (bth h).ex c x) ∨ (∃ c ∈ d.ds, (bth h).de c x),
     fun a x => x ∈ a.ss ∨ (∃ c ∈ a.l, (bth h).ex c x)⟩
theorem bth_iff : ∀ h, (∀ t y, (bth h).ex t y ↔ (bnd h).ex t y ∨ (usd h).ex t y) ∧ (∀ t y, (bth h).de t y ↔ (bnd h).de t y ∨ (usd h).de t y) ∧ (∀ t y, (bth h).al t y ↔ (bnd h).al t y ∨ (usd h).al t y) := by
  intro h
  induction h with
  | zero => exact ⟨fun _ _ => ⟨False.elim, fun h => h.elim id id⟩, fun _ _ => ⟨False.elim, fun h => h.elim id id⟩, fun _ _ => ⟨False.elim, fun h => h.elim id id⟩⟩
  | succ h ih =>
    obtain ⟨i1, i2, i3⟩ := ih
    refine ⟨fun t y => ⟨fun hy => ?_, fun hy => ?_⟩, fun t y => ⟨fun hy => ?_, fun hy => ?_⟩, fun t y => ⟨fun hy => ?_, fun hy => ?_⟩⟩
    · rcases hy with ⟨h1 | h1, h2⟩ | ⟨c, hc, hy⟩ | ⟨c, hc, hy⟩ | ⟨c, hc, hy⟩
      · exact .inl (.inl ⟨h1, h2⟩)
      · exact .inr (.inl ⟨h1, h2⟩)
      · exact ((i1 c y).1 hy).elim (fun h => .inl (.inr (.inl ⟨c, hc, h⟩))) (fun h => .inr (.inr (.inl ⟨c, hc, h⟩)))
      · exact ((i3 c y).1 hy).elim (fun h => .inl (.inr (.inr (.inl ⟨c, hc, h⟩)))) (fun h => .inr (.inr (.inr (.inl ⟨c, hc, h⟩))))
      · exact ((i2 c y).1 hy).elim (fun h => .inl (.inr (.inr (.inr ⟨c, hc, h⟩)))) (fun h => .inr (.inr (.inr (.inr ⟨c, hc, h⟩))))
    · rcases hy with (⟨h1, h2⟩ | ⟨c, hc, hy⟩ | ⟨c, hc, hy⟩ | ⟨c, hc, hy⟩) | (⟨h1, h2⟩ | ⟨c, hc, hy⟩ | ⟨c, hc, hy⟩ | ⟨c, hc, hy⟩)
      · exact .inl ⟨.inl h1, h2⟩
      · exact .inr (.inl ⟨c, hc, (i1 c y).2 (.inl hy)⟩)
      · exact .inr (.inr (.inl ⟨c, hc, (i3 c y).2 (.inl hy)⟩))
      · exact .inr (.inr (.inr ⟨c, hc, (i2 c y).2 (.inl hy)⟩))
      · exact .inl ⟨.inr h1, h2⟩
      · exact .inr (.inl ⟨c, hc, (i1 c y).2 (.inr hy)⟩)
      · exact .inr (.inr (.inl ⟨c, hc, (i3 c y).2 (.inr hy)⟩))
      · exact .inr (.inr (.inr ⟨c, hc, (i2 c y).2 (.inr hy)⟩))
    · rcases hy with hy | hy | ⟨c, hc, hy⟩ | ⟨c, hc, hy⟩
      · exact .inl (.inl hy)
      · exact .inl (.inr (.inl hy))
      · exact ((i1 c y).1 hy).elim (fun h => .inl (.inr (.inr (.inl ⟨c, hc, h⟩)))) (fun h => .inr (.inl ⟨c, hc, h⟩))
      · exact ((i2 c y).1 hy).elim (fun h => .inl (.inr (.inr (.inr ⟨c, hc, h⟩)))) (fun h => .inr (.inr ⟨c, hc, h⟩))
    · rcases hy with (hy | hy | ⟨c, hc, hy⟩ | ⟨c, hc, hy⟩) | (⟨c, hc, hy⟩ | ⟨c, hc, hy⟩)
      · exact .inl hy
      · exact .inr (.inl hy)
      · exact .inr (.inr (.inl ⟨c, hc, (i1 c y).2 (.inl hy)⟩))
      · exact .inr (.inr (.inr ⟨c, hc, (i2 c y).2 (.inl hy)⟩))
      · exact .inr (.inr (.inl ⟨c, hc, (i1 c y).2 (.inr hy)⟩))
      · exact .inr (.inr (.inr ⟨c, hc, (i2 c y).2 (.inr hy)⟩))
    · rcases hy with hy | ⟨c, hc, hy⟩
      · exact .inl (.inl hy)
      · exact ((i1 c y).1 hy).elim (fun h => .inl (.inr ⟨c, hc, h⟩)) (fun h => .inr ⟨c, hc, h⟩)
    · rcases hy with (hy | ⟨c, hc, hy⟩) | ⟨c, hc, hy⟩
      · exact .inl hy
      · exact .inr ⟨c, hc, (i1 c y).2 (.inl hy)⟩
      · exact .inr ⟨c, hc, (i1 c y).2 (.inr hy)⟩
theorem bth_mono : ∀ h, (∀ t y, (bth h).ex t y → (bth (h + 1)).ex t y) := by
  have key : ∀ h, (∀ t y, (bth h).ex t y → (bth (h + 1)).ex t y) ∧ (∀ t y, (bth h).de t y → (bth (h + 1)).de t y) ∧ (∀ t y, (bth h).al t y → (bth (h + 1)).al t y) := by
    intro h
    induction h with
    | zero => exact ⟨fun _ _ h => h.elim, fun _ _ h => h.elim, fun _ _ h => h.elim⟩
    | succ h ih =>
      obtain ⟨i1, i2, i3⟩ := ih
      refine ⟨fun t y hy => ?_, fun t y hy => ?_, fun t y hy => ?_⟩
      · rcases hy with hy | ⟨c, hc, hy⟩ | ⟨c, hc, hy⟩ | ⟨c, hc, hy⟩
        · exact .inl hy
        · exact .inr (.inl ⟨c, hc, i1 c y hy⟩)
        · exact .inr (.inr (.inl ⟨c, hc, i3 c y hy⟩))
        · exact .inr (.inr (.inr ⟨c, hc, i2 c y hy⟩))
      · rcases hy with hy | hy | ⟨c, hc, hy⟩ | ⟨c, hc, hy⟩
        · exact .inl hy
        · exact .inr (.inl hy)
        · exact .inr (.inr (.inl ⟨c, hc, i1 c y hy⟩))
        · exact .inr (.inr (.inr ⟨c, hc, i2 c y hy⟩))
      · rcases hy with hy | ⟨c, hc, hy⟩
        · exact .inl hy
        · exact .inr ⟨c, hc, i1 c y hy⟩
  exact fun h => (key h).1
def bthK (b : Bool) (h : Nat) (t : Tr) (y : ByteArray) : Prop := if b then (bth h).ex t y else (bth h).de t y
/-- The names that are bound or asked for at a place itself. -/
def othK (b : Bool) (t : Tr) (y : ByteArray) : Prop := if b then ((t.k = 5 ∨ t.k = 1) ∧ y = t.s) ∨ ∃ a ∈ t.al, y ∈ a.ss else y = t.s ∨ y ∈ t.ss
/-- What is left to be looked at, and how much it weighs at most. -/
def Bud2 (w : World) (K : Nat → Prop) (R : ByteArray → Prop) : List (Bool × Addr) → Nat → Prop
  | [], _ => True
  | k :: l, n => ∃ h t m, (AtP w K k h t ∧ ∀ y, bthK k.1 h t y → R y) ∧ wgtK k.1 h t + m ≤ n ∧ Bud2 w K R l m
section
variable {w : World} {K : Nat → Prop} {R : ByteArray → Prop}
theorem Bud2.mono {l : List (Bool × Addr)} {n m : Nat} (h : Bud2 w K R l n) (hn : n ≤ m) : Bud2 w K R l m := by
  cases l with
  | nil => trivial
  | cons p l =>
    obtain ⟨a, t, k, h1, h4, h5⟩ := h
    exact ⟨a, t, k, h1, by omega, h5⟩
theorem Bud2.join {l r : List (Bool × Addr)} {n m : Nat} (h : Bud2 w K R l n) (k : Bud2 w K R r m) : Bud2 w K R (l ++ r) (n + m) := by
  induction l generalizing n with
  | nil => exact k.mono (by omega)
  | cons p l ih =>
    obtain ⟨a, t, q, h1, h4, h5⟩ := h
    exact ⟨a, t, q + m, h1, by omega, ih h5⟩
theorem Bud2.sub {l r : List (Bool × Addr)} {n : Nat} (h : Bud2 w K R r n) (hs : l.Sublist r) : Bud2 w K R l n := by
  induction hs generalizing n with
  | slnil => trivial
  | cons a _ ih =>
    obtain ⟨b, t, q, h1, h4, h5⟩ := h
    exact (ih h5).mono (by omega)
  | cons_cons a _ ih =>
    obtain ⟨b, t, q, h1, h4, h5⟩ := h
    exact ⟨b, t, q, h1, h4, ih h5⟩
theorem Bud2.len {l : List (Bool × Addr)} {n : Nat} (h : Bud2 w K R l n) : l.length ≤ n := by
  induction l generalizing n with
  | nil => exact Nat.zero_le _
  | cons p l ih =>
    obtain ⟨a, t, q, h1, h4, h5⟩ := h
    have h6 := ih h5
    have h7 := wgt_pos h1.1
    rw [List.length_cons]
    omega
theorem rowBud2 {o : Option Addr} {sz d : Nat} {b : Bool} (f : Tr → Nat) (xs : List Tr) (hx : ∀ (i : Nat) (x : Tr), xs[i]? = some x → ∃ h t, (AtP w K (b, ⟨bOf o, fOf o + i * sz + d, none⟩) h t ∧ ∀ y, bthK b h t y → R y) ∧ wgtK b h t ≤ f x) : Bud2 w K R ((rowA o sz d xs.length).map fun a => (b, a)) (xs.map f).sum := by
  have key : ∀ i, i ≤ xs.length → Bud2 w K R ((rowA o sz d i).map fun a => (b, a)) ((xs.take i).map f).sum := by
    intro i
    induction i with
    | zero => intro _; trivial
    | succ i ih =>
      intro hi
      rw [rowA_succ, List.map_append, sum_take_succ f xs i (by omega)]
      obtain ⟨h, t, h1, h2⟩ := hx i xs[i] (List.getElem?_eq_getElem (by omega))
      exact (ih (by omega)).join ⟨h, t, 0, h1, by simpa using h2, trivial⟩
  have h9 := key xs.length (Nat.le_refl _)
  rw [List.take_length] at h9
  exact h9
/-- All places are looked at: each name that is bound behind one of them is bound at one of them. -/
theorem all_own2 {ks : List (Bool × Addr)} (hk : ∀ k ∈ ks, Kids w K ks k) : ∀ (h : Nat) (k : Bool × Addr), k ∈ ks → ∀ (h' : Nat) (t : Tr), AtP w K k h' t → ∀ y, bthK k.1 h t y → ∃ k' ∈ ks, ∃ h2 t2, AtP w K k' h2 t2 ∧ othK k'.1 t2 y := by
  intro h
  induction h with
  | zero =>
    intro k _ h' t _ y hy
    unfold bthK at hy
    split at hy
    · exact hy.elim
    · exact hy.elim
  | succ h ih =>
    intro k hkm h' t hat y hy
    obtain ⟨h3, t3, hat3, kl, kd, ka⟩ := hk k hkm
    have e := at_fun hat hat3
    subst e
    unfold bthK at hy
    split at hy
    · rename_i hb
      rcases hy with hy | ⟨c, hc, hy⟩ | ⟨a, hal, hy⟩ | ⟨d, hd, hy⟩
      · exact ⟨k, hkm, h', t, hat, by unfold othK; rw [if_pos hb]; exact .inl hy⟩
      · obtain ⟨k', hk', hb', h4, hat4⟩ := kl c hc
        exact ih k' hk' h4 c hat4 y (by unfold bthK; rw [if_pos hb']; exact hy)
      · cases h with
        | zero => exact hy.elim
        | succ h =>
          rcases hy with hy | ⟨c, hc, hy⟩
          · exact ⟨k, hkm, h', t, hat, by unfold othK; rw [if_pos hb]; exact .inr ⟨a, hal, hy⟩⟩
          · obtain ⟨k', hk', hb', h4, hat4⟩ := ka a hal c hc
            refine ih k' hk' h4 c hat4 y ?_
            unfold bthK
            rw [if_pos hb']
            exact bth_mono h c y hy
      · obtain ⟨k', hk', hb', h4, hat4⟩ := kd d hd
        exact ih k' hk' h4 d hat4 y (by unfold bthK; rw [if_neg (by rw [hb']; simp)]; exact hy)
    · rename_i hb
      rcases hy with hy | hy | ⟨c, hc, hy⟩ | ⟨d, hd, hy⟩
      · exact ⟨k, hkm, h', t, hat, by unfold othK; rw [if_neg hb]; exact .inl hy⟩
      · exact ⟨k, hkm, h', t, hat, by unfold othK; rw [if_neg hb]; exact .inr hy⟩
      · obtain ⟨k', hk', hb', h4, hat4⟩ := kl c hc
        exact ih k' hk' h4 c hat4 y (by unfold bthK; rw [if_pos hb']; exact hy)
      · obtain ⟨k', hk', hb', h4, hat4⟩ := kd d hd
        exact ih k' hk' h4 d hat4 y (by unfold bthK; rw [if_neg (by rw [hb']; simp)]; exact hy)
/-- Of a place nothing is bound that R does not have. -/
def Snd2 (w : World) (K : Nat → Prop) (R : ByteArray → Prop) (N : Nat) (k : Bool × Addr) : Prop := ∃ h t, AtP w K k h t ∧ (∀ y, bthK k.1 h t y → R y) ∧ wgtK k.1 h t ≤ N
theorem own_bth {k : Bool × Addr} {h : Nat} {t : Tr} (hat : AtP w K k h t) {y : ByteArray} (hy : othK k.1 t y) : bthK k.1 h t y := by
  obtain ⟨-, -, cs, -, -, r⟩ := hat
  cases hk : k.1
  · rw [hk] at r hy
    cases h with
    | zero => exact r.elim
    | succ h =>
      rcases hy with hy | hy
      · exact .inl hy
      · exact .inr (.inl hy)
  · rw [hk] at r hy
    cases h with
    | zero => exact r.elim
    | succ h =>
      rcases hy with hy | ⟨a, ha, hy⟩
      · exact .inl hy
      · refine .inr (.inr (.inl ⟨a, ha, ?_⟩))
        obtain ⟨-, o1, c1, o2, c2, o3, c3, -, -, -, -, -, -, -, r3⟩ := r
        obtain ⟨i, hi⟩ := List.mem_iff_getElem?.1 ha
        obtain ⟨b, off, -, -, -, hc⟩ := r3 (fun e => by rw [e] at ha; cases ha)
        obtain ⟨cs', -, -, hr⟩ := hc i a hi
        cases h with
        | zero => exact hr.elim
        | succ h => exact .inl hy
end
section
variable {w : World} {K : Nat → Prop}
/-- The parts of an expression at a place. -/
theorem exp_kids2 {a : Addr} {h : Nat} {t : Tr} {cs : List Value} {o1 o2 o3 : Option Addr} {R : ByteArray → Prop} (hr : (reads K w (h + 1)).ex t cs) (h1 : ∃ c1, cs[3]? = some (.slice o1 t.l.length c1)) (h2 : ∃ c2, cs[4]? = some (.slice o2 t.ds.length c2)) (h3 : ∃ c3, cs[5]? = some (.slice o3 t.al.length c3)) (hat : AtP w K (true, a) (h + 1) t) (hR : ∀ y, (bth (h + 1)).ex t y → R y) {N : Nat} (hNN : (wgt (h + 1)).ex t ≤ N) :
    (∃ m, Bud2 w K R (kidsE o1 o2 o3 t.l.length t.ds.length t.al.length) m ∧ m + 1 + (t.l.length + t.ds.length + t.al.length) ≤ (wgt (h + 1)).ex t) ∧
    (∀ ks, (∀ k ∈ kidsE o1 o2 o3 t.l.length t.ds.length t.al.length, k ∈ ks) → Kids w K ks (true, a)) ∧ (∀ k ∈ kidsE o1 o2 o3 t.l.length t.ds.length t.al.length, Snd2 w K R N k) := by
  obtain ⟨-, p1, d1, p2, d2, p3, d3, rfl, -, -, -, -, r1, r2, r3⟩ := hr
  obtain ⟨c1, h1⟩ := h1
  obtain ⟨c2, h2⟩ := h2
  obtain ⟨c3, h3⟩ := h3
  simp only [List.getElem?_cons_succ, List.getElem?_cons_zero, Option.some.injEq, Value.slice.injEq, true_and] at h1 h2 h3
  obtain ⟨rfl, rfl⟩ := h1
  obtain ⟨rfl, rfl⟩ := h2
  obtain ⟨rfl, rfl⟩ := h3
  have hmem : ∀ k, k ∈ kidsE p1 p2 p3 t.l.length t.ds.length t.al.length ↔ k ∈ (rowA p1 6 0 t.l.length).map (fun a => (true, a)) ∨ k ∈ (rowA p2 9 0 t.ds.length).map (fun a => (false, a)) ∨ k ∈ (rowA p3 8 2 t.al.length).map (fun a => (true, a)) := fun k => by
    unfold kidsE
    rw [List.mem_append, List.mem_append, or_assoc]
  have hw : 1 + (t.l.length + (t.l.map (wgt h).ex).sum) + (t.ds.length + (t.ds.map (wgt h).de).sum) + (t.al.map (wgt h).al).sum ≤ N := by
    have e9 : (wgt (h + 1)).ex t = 1 + (t.l.map fun c => 1 + (wgt h).ex c).sum + (t.ds.map fun c => 1 + (wgt h).de c).sum + (t.al.map (wgt h).al).sum := rfl
    rw [e9, sum_one, sum_one] at hNN
    exact hNN
  refine ⟨?_, fun ks hks => ⟨h + 1, t, hat, fun c hc => ?_, fun c hc => ?_, fun al hal c hc => ?_⟩, fun k hk => ?_⟩
  · have b1 := rowBud2 (w := w) (K := K) (R := R) (o := p1) (sz := 6) (d := 0) (b := true) (wgt h).ex t.l (fun i x hi => ⟨h, x, ⟨(ex_at r1 i x hi).2, fun y hy => hR y (.inr (.inl ⟨x, List.mem_of_getElem? hi, hy⟩))⟩, Nat.le_refl _⟩)
    have b2 := rowBud2 (w := w) (K := K) (R := R) (o := p2) (sz := 9) (d := 0) (b := false) (wgt h).de t.ds (fun i x hi => ⟨h, x, ⟨(de_at r2 i x hi).2, fun y hy => hR y (.inr (.inr (.inr ⟨x, List.mem_of_getElem? hi, hy⟩)))⟩, Nat.le_refl _⟩)
    have b3 := rowBud2 (w := w) (K := K) (R := R) (o := p3) (sz := 8) (d := 2) (b := true) (fun x => (wgt h).al x - 1) t.al (fun i x hi => by
      obtain ⟨e, h', e1, e2, -, hat'⟩ := al_at r3 i x hi
      subst e2
      refine ⟨h', e, ⟨hat', fun y hy => hR y (.inr (.inr (.inl ⟨x, List.mem_of_getElem? hi, .inr ⟨e, by rw [e1]; simp, hy⟩⟩)))⟩, ?_⟩
      show (wgt h').ex e ≤ (x.ss.length + (x.l.map fun c => 1 + (wgt h').ex c).sum) - 1
      rw [e1]
      simp
      omega)
    refine ⟨_, (b1.join b2).join b3, ?_⟩
    have e3 : t.al.length + (t.al.map fun x => (wgt h).al x - 1).sum ≤ (t.al.map (wgt h).al).sum := by
      have h9 : ∀ x ∈ t.al, 1 ≤ (wgt h).al x := fun x hx => by
        obtain ⟨i, hi⟩ := List.mem_iff_getElem?.1 hx
        obtain ⟨e, h', e1, e2, -, hat'⟩ := al_at r3 i x hi
        subst e2
        show 1 ≤ x.ss.length + (x.l.map fun c => 1 + (wgt h').ex c).sum
        rw [e1]
        simp
        omega
      generalize t.al = l at h9
      clear b3
      induction l with
      | nil => simp
      | cons x r ih =>
        have h8 := ih fun y hy => h9 y (by simp [hy])
        have h7 := h9 x (by simp)
        simp only [List.map_cons, List.sum_cons, List.length_cons]
        omega
    show _ ≤ 1 + (t.l.map fun c => 1 + (wgt h).ex c).sum + (t.ds.map fun c => 1 + (wgt h).de c).sum + (t.al.map (wgt h).al).sum
    rw [sum_one, sum_one]
    omega
  · obtain ⟨i, hi⟩ := List.mem_iff_getElem?.1 hc
    obtain ⟨m1, m2⟩ := ex_at r1 i c hi
    exact ⟨_, hks _ ((hmem _).2 (.inl (List.mem_map.2 ⟨_, m1, rfl⟩))), rfl, h, m2⟩
  · obtain ⟨i, hi⟩ := List.mem_iff_getElem?.1 hc
    obtain ⟨m1, m2⟩ := de_at r2 i c hi
    exact ⟨_, hks _ ((hmem _).2 (.inr (.inl (List.mem_map.2 ⟨_, m1, rfl⟩)))), rfl, h, m2⟩
  · obtain ⟨i, hi⟩ := List.mem_iff_getElem?.1 hal
    obtain ⟨e, h', e1, e2, m1, m2⟩ := al_at r3 i al hi
    rw [e1, List.mem_singleton] at hc
    subst hc
    exact ⟨_, hks _ ((hmem _).2 (.inr (.inr (List.mem_map.2 ⟨_, m1, rfl⟩)))), rfl, h', m2⟩
  · rcases (hmem k).1 hk with hk | hk | hk
    · obtain ⟨b, hb, rfl⟩ := List.mem_map.1 hk
      obtain ⟨i, hi, rfl⟩ := List.mem_map.1 hb
      have hi2 := List.mem_range.1 hi
      exact ⟨h, _, (ex_at r1 i _ (List.getElem?_eq_getElem hi2)).2, fun y hy => hR y (.inr (.inl ⟨_, List.getElem_mem hi2, hy⟩)), (by have := sum_mem_le (wgt h).ex t.l _ (List.getElem_mem hi2); show (wgt h).ex _ ≤ N; omega)⟩
    · obtain ⟨b, hb, rfl⟩ := List.mem_map.1 hk
      obtain ⟨i, hi, rfl⟩ := List.mem_map.1 hb
      have hi2 := List.mem_range.1 hi
      exact ⟨h, _, (de_at r2 i _ (List.getElem?_eq_getElem hi2)).2, fun y hy => hR y (.inr (.inr (.inr ⟨_, List.getElem_mem hi2, hy⟩))), (by have := sum_mem_le (wgt h).de t.ds _ (List.getElem_mem hi2); show (wgt h).de _ ≤ N; omega)⟩
    · obtain ⟨b, hb, rfl⟩ := List.mem_map.1 hk
      obtain ⟨i, hi, rfl⟩ := List.mem_map.1 hb
      have hi2 := List.mem_range.1 hi
      obtain ⟨e, h', e1, e2, m1, m2⟩ := al_at r3 i _ (List.getElem?_eq_getElem hi2)
      have hs := sum_mem_le (wgt h).al t.al _ (List.getElem_mem hi2)
      refine ⟨h', e, m2, fun y hy => hR y (.inr (.inr (.inl ⟨_, List.getElem_mem hi2, ?_⟩))), ?_⟩
      · rw [e2]
        exact .inr ⟨e, by rw [e1]; simp, hy⟩
      · subst e2
        have e9 : (wgt (h' + 1)).al t.al[i] = (t.al[i]).ss.length + ((t.al[i]).l.map fun c => 1 + (wgt h').ex c).sum := rfl
        rw [e1] at e9
        simp at e9
        show (wgt h').ex e ≤ N
        omega
theorem dec_kids2 {a : Addr} {h : Nat} {t : Tr} {cs : List Value} {o2 : Option Addr} {R : ByteArray → Prop} (hca : CellsA w a cs) (hab : K a.block) (hr : (reads K w (h + 1)).de t cs) (h2 : ∃ c2, cs[8]? = some (.slice o2 t.ds.length c2)) (hat : AtP w K (false, a) (h + 1) t) (hR : ∀ y, (bth (h + 1)).de t y → R y) {N : Nat} (hNN : (wgt (h + 1)).de t ≤ N) :
    (∃ m, Bud2 w K R ((true, ⟨a.block, a.off + 2, none⟩) :: (rowA o2 9 0 t.ds.length).map fun a => (false, a)) m ∧ m + 1 + (1 + t.ds.length) ≤ (wgt (h + 1)).de t) ∧
    (∀ ks, (true, ⟨a.block, a.off + 2, none⟩) ∈ ks → (∀ b ∈ rowA o2 9 0 t.ds.length, (false, b) ∈ ks) → Kids w K ks (false, a)) ∧ (∀ k ∈ (true, ⟨a.block, a.off + 2, none⟩) :: (rowA o2 9 0 t.ds.length).map fun a => (false, a), Snd2 w K R N k) := by
  obtain ⟨-, -, z3, e, p1, d1, ce, p2, d2, el, rfl, -, -, -, r1, lc, re, r2⟩ := hr
  obtain ⟨c2, h2⟩ := h2
  obtain ⟨a0, a1, a2, a3, a4, a5, rfl⟩ := six lc
  have h2' : Value.slice p2 t.ds.length d2 = .slice o2 t.ds.length c2 := by simpa using h2
  simp only [Value.slice.injEq, true_and] at h2'
  obtain ⟨rfl, rfl⟩ := h2'
  have hE : AtP w K (true, ⟨a.block, a.off + 2, none⟩) h e := by
    refine ⟨rfl, hab, [a0, a1, a2, a3, a4, a5], fun j u hu => ?_, rfl, re⟩
    have h9 := hca (2 + j) u (by rw [List.append_assoc, List.getElem?_append_right (by show 2 ≤ _; omega)]; show ([a0, a1, a2, a3, a4, a5] ++ _)[2 + j - 2]? = some u; rw [Nat.add_sub_cancel_left, List.getElem?_append_left (List.getElem?_eq_some_iff.1 hu).1]; exact hu)
    have e9 : a.off + (2 + j) = a.off + 2 + j := by omega
    rw [e9] at h9
    exact h9
  have hw : 1 + t.ss.length + (1 + (wgt h).ex e) + (t.ds.length + (t.ds.map (wgt h).de).sum) ≤ N := by
    have e9 : (wgt (h + 1)).de t = 1 + t.ss.length + (t.l.map fun c => 1 + (wgt h).ex c).sum + (t.ds.map fun c => 1 + (wgt h).de c).sum := rfl
    rw [e9, sum_one, sum_one, el] at hNN
    simp at hNN
    omega
  refine ⟨?_, fun ks hk1 hk2 => ⟨h + 1, t, hat, fun c hc => ?_, fun c hc => ?_, fun al hal => ?_⟩, fun k hk => ?_⟩
  · have b2 := rowBud2 (w := w) (K := K) (R := R) (o := p2) (sz := 9) (d := 0) (b := false) (wgt h).de t.ds (fun i x hi => ⟨h, x, ⟨(de_at r2 i x hi).2, fun y hy => hR y (.inr (.inr (.inr ⟨x, List.mem_of_getElem? hi, hy⟩)))⟩, Nat.le_refl _⟩)
    refine ⟨(wgt h).ex e + (t.ds.map (wgt h).de).sum, ⟨h, e, _, ⟨hE, fun y hy => hR y (.inr (.inr (.inl ⟨e, by rw [el]; simp, hy⟩)))⟩, Nat.le_refl _, b2⟩, ?_⟩
    show _ ≤ 1 + t.ss.length + (t.l.map fun c => 1 + (wgt h).ex c).sum + (t.ds.map fun c => 1 + (wgt h).de c).sum
    rw [sum_one, sum_one, el]
    simp
    omega
  · rw [el, List.mem_singleton] at hc
    subst hc
    exact ⟨_, hk1, rfl, h, hE⟩
  · obtain ⟨i, hi⟩ := List.mem_iff_getElem?.1 hc
    obtain ⟨m1, m2⟩ := de_at r2 i c hi
    exact ⟨_, hk2 _ m1, rfl, h, m2⟩
  · rw [z3] at hal
    cases hal
  · rcases List.mem_cons.1 hk with rfl | hk
    · exact ⟨h, e, hE, fun y hy => hR y (.inr (.inr (.inl ⟨e, by rw [el]; simp, hy⟩))), (by show (wgt h).ex e ≤ N; omega)⟩
    · obtain ⟨b, hb, rfl⟩ := List.mem_map.1 hk
      obtain ⟨i, hi, rfl⟩ := List.mem_map.1 hb
      have hi2 := List.mem_range.1 hi
      exact ⟨h, _, (de_at r2 i _ (List.getElem?_eq_getElem hi2)).2, fun y hy => hR y (.inr (.inr (.inr ⟨_, List.getElem_mem hi2, hy⟩))), (by have := sum_mem_le (wgt h).de t.ds _ (List.getElem_mem hi2); show (wgt h).de _ ≤ N; omega)⟩
end
end Go.Proofs.YtihjpkldefllgakGreat.Nm

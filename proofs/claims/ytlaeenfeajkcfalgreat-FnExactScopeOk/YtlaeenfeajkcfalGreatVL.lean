/- What the places of a net are of, plainly: what is bound in the first stands at one of them, and nothing else. -/
import Derived.Test.YtlaeenfeajkcfalGreatSD
import Derived.Test.YtlaeenfeajkcfalGreatSE
namespace Go.Proofs.YtlaeenfeajkcfalGreat.Fr
open Go.ChangeShapes Go.WideShapes Go.ChangeAt Go.RowKit Go.Proofs.YtlaeenfeajkcfalGreat.Nm
set_option linter.unusedVariables false

theorem tr_ext {a b : Tr} (h1 : a.k = b.k) (h2 : a.s = b.s) (h3 : a.n = b.n) (h4 : a.ss = b.ss) (h5 : a.l = b.l) (h6 : a.ds = b.ds) (h7 : a.al = b.al) : a = b := by
  cases a
  cases b
  simp_all
theorem row_fun {α : Type} {K K' : Nat → Prop} {w : World} {R R' : α → List Value → Prop} {sz : Nat} {o : Option Addr} {xs ys : List α} (h1 : RowOf K w R sz o xs) (h2 : RowOf K' w R' sz o ys) (hl : xs.length = ys.length)
    (hR : ∀ x y cs, R x cs → R' y cs → x = y) : xs = ys := by
  apply List.ext_getElem hl
  intro i hi hj
  have hne : xs ≠ [] := fun e => by rw [e] at hi; cases hi
  have hne2 : ys ≠ [] := fun e => by rw [e] at hj; cases hj
  obtain ⟨b, off, e1, -, -, hc⟩ := h1 hne
  obtain ⟨b2, off2, e2, -, -, hc2⟩ := h2 hne2
  rw [e1] at e2
  cases e2
  obtain ⟨cs, l1, r1, q1⟩ := hc i xs[i] (List.getElem?_eq_getElem hi)
  obtain ⟨cs2, l2, r2, q2⟩ := hc2 i ys[i] (List.getElem?_eq_getElem hj)
  have : cs = cs2 := by
    apply List.ext_getElem (l1.trans l2.symm)
    intro j ja jb
    have a1 := r1 j cs[j] (List.getElem?_eq_getElem ja)
    have a2 := r2 j cs2[j] (List.getElem?_eq_getElem jb)
    rw [a1] at a2
    exact Option.some.inj a2
  subst this
  exact hR _ _ _ q1 q2
theorem strR_fun (x y : ByteArray) (cs : List Value) (h1 : strR x cs) (h2 : strR y cs) : x = y := by
  have e := h1.1.symm.trans h2.1
  simpa using e
theorem reads_fun {K K' : Nat → Prop} {w : World} : ∀ h1 h2, (∀ t u cs, (reads K w h1).ex t cs → (reads K' w h2).ex u cs → t = u) ∧ (∀ t u cs, (reads K w h1).de t cs → (reads K' w h2).de u cs → t = u) ∧ (∀ t u cs, (reads K w h1).al t cs → (reads K' w h2).al u cs → t = u) := by
  intro h1
  induction h1 with
  | zero => exact fun _ => ⟨fun _ _ _ h => False.elim h, fun _ _ _ h => False.elim h, fun _ _ _ h => False.elim h⟩
  | succ h1 ih =>
    intro h2
    cases h2 with
    | zero => exact ⟨fun _ _ _ _ h => False.elim h, fun _ _ _ _ h => False.elim h, fun _ _ _ _ h => False.elim h⟩
    | succ h2 =>
      obtain ⟨i1, i2, i3⟩ := ih h2
      refine ⟨fun t u cs a b => ?_, fun t u cs a b => ?_, fun t u cs a b => ?_⟩
      · obtain ⟨z, o1, c1, o2, c2, o3, c3, ec, -, -, -, -, r1, r2, r3⟩ := a
        obtain ⟨z', p1, d1, p2, d2, p3, d3, ed, -, -, -, -, q1, q2, q3⟩ := b
        rw [ec] at ed
        simp only [List.cons.injEq, Value.int.injEq, Value.string.injEq, Value.slice.injEq, true_and, and_true] at ed
        obtain ⟨k1, k2, k3, ⟨m1, n1, -⟩, ⟨m2, n2, -⟩, m3, n3, -⟩ := ed
        subst m1 m2 m3
        exact tr_ext k1 k2 k3 (z.trans z'.symm) (row_fun r1 q1 n1 i1) (row_fun r2 q2 n2 i2) (row_fun r3 q3 n3 i3)
      · obtain ⟨z1, z2, z3, e, o1, c1, ce, o2, c2, el, ec, -, -, -, r1, lc, re, r2⟩ := a
        obtain ⟨y1, y2, y3, f, p1, d1, de, p2, d2, fl, ed, -, -, -, q1, ld, qe, q2⟩ := b
        rw [ec] at ed
        simp only [List.cons_append, List.nil_append, List.cons.injEq, Value.string.injEq, Value.slice.injEq] at ed
        obtain ⟨k2, ⟨m1, n1, -⟩, ed⟩ := ed
        have hz := List.append_inj ed (lc.trans ld.symm)
        have hce := hz.1
        have hsl := hz.2
        subst hce
        rw [List.cons.injEq, Value.slice.injEq] at hsl
        obtain ⟨⟨m2, n2, -⟩, -⟩ := hsl
        subst m1 m2
        exact tr_ext (z1.trans y1.symm) k2 (z2.trans y2.symm) (row_fun r1 q1 n1 strR_fun) (by rw [el, fl, i1 _ _ _ re qe]) (row_fun r2 q2 n2 i2) (z3.trans y3.symm)
      · obtain ⟨z1, z2, z3, z4, e, o1, c1, ce, el, ec, -, -, r1, lc, re⟩ := a
        obtain ⟨y1, y2, y3, y4, f, p1, d1, de, fl, ed, -, -, q1, ld, qe⟩ := b
        rw [ec] at ed
        simp only [List.cons_append, List.nil_append, List.cons.injEq, Value.string.injEq, Value.slice.injEq] at ed
        obtain ⟨k2, ⟨m1, n1, -⟩, rfl⟩ := ed
        subst m1
        exact tr_ext (z1.trans y1.symm) k2 (z2.trans y2.symm) (row_fun r1 q1 n1 strR_fun) (by rw [el, fl, i1 _ _ _ re qe]) (z3.trans y3.symm) (z4.trans y4.symm)

/-- At a place stands a tree. -/
def AtP (w : World) (K : Nat → Prop) (k : Bool × Addr) (h : Nat) (t : Tr) : Prop := k.2.spot = none ∧ K k.2.block ∧ ∃ cs, CellsA w k.2 cs ∧ cs.length = (if k.1 then 6 else 9) ∧ (if k.1 then (reads K w h).ex t cs else (reads K w h).de t cs)
theorem at_fun {w : World} {K : Nat → Prop} {k : Bool × Addr} {h h' : Nat} {t u : Tr} (a : AtP w K k h t) (b : AtP w K k h' u) : t = u := by
  obtain ⟨-, -, cs, c1, l1, r1⟩ := a
  obtain ⟨-, -, ds, c2, l2, r2⟩ := b
  have e : cs = ds := by
    apply List.ext_getElem (l1.trans l2.symm)
    intro j ja jb
    have a1 := c1 j cs[j] (List.getElem?_eq_getElem ja)
    have a2 := c2 j ds[j] (List.getElem?_eq_getElem jb)
    rw [a1] at a2
    exact Option.some.inj a2
  subst e
  cases hk : k.1
  · rw [hk] at r1 r2
    exact (reads_fun h h').2.1 _ _ _ r1 r2
  · rw [hk] at r1 r2
    exact (reads_fun h h').1 _ _ _ r1 r2
def wgt : Nat → Nums
  | 0 => ⟨fun _ => 0, fun _ => 0, fun _ => 0⟩
  | h + 1 => ⟨fun e => 1 + (e.l.map fun c => 1 + (wgt h).ex c).sum + (e.ds.map fun c => 1 + (wgt h).de c).sum + (e.al.map (wgt h).al).sum,
     fun d => 1 + d.ss.length + (d.l.map fun c => 1 + (wgt h).ex c).sum + (d.ds.map fun c => 1 + (wgt h).de c).sum,
     fun a => a.ss.length + (a.l.map fun c => 1 + (wgt h).ex c).sum⟩
def wgtK (b : Bool) (h : Nat) (t : Tr) : Nat := if b then (wgt h).ex t else (wgt h).de t
def bndK (b : Bool) (h : Nat) (t : Tr) (y : ByteArray) : Prop := if b then (bnd h).ex t y else (bnd h).de t y
/-- What is left to be looked at, and how much it weighs at most. -/
def Bud (w : World) (K : Nat → Prop) (R : ByteArray → Prop) : List (Bool × Addr) → Nat → Prop
  | [], _ => True
  | k :: l, n => ∃ h t m, (AtP w K k h t ∧ ∀ y, bndK k.1 h t y → R y) ∧ wgtK k.1 h t + m ≤ n ∧ Bud w K R l m
section
variable {w : World} {K : Nat → Prop} {R : ByteArray → Prop}
theorem Bud.mono {l : List (Bool × Addr)} {n m : Nat} (h : Bud w K R l n) (hn : n ≤ m) : Bud w K R l m := by
  cases l with
  | nil => trivial
  | cons p l =>
    obtain ⟨a, t, k, h1, h4, h5⟩ := h
    exact ⟨a, t, k, h1, by omega, h5⟩
theorem Bud.join {l r : List (Bool × Addr)} {n m : Nat} (h : Bud w K R l n) (k : Bud w K R r m) : Bud w K R (l ++ r) (n + m) := by
  induction l generalizing n with
  | nil => exact k.mono (by omega)
  | cons p l ih =>
    obtain ⟨a, t, q, h1, h4, h5⟩ := h
    exact ⟨a, t, q + m, h1, by omega, ih h5⟩
theorem Bud.sub {l r : List (Bool × Addr)} {n : Nat} (h : Bud w K R r n) (hs : l.Sublist r) : Bud w K R l n := by
  induction hs generalizing n with
  | slnil => trivial
  | cons a _ ih =>
    obtain ⟨b, t, q, h1, h4, h5⟩ := h
    exact (ih h5).mono (by omega)
  | cons_cons a _ ih =>
    obtain ⟨b, t, q, h1, h4, h5⟩ := h
    exact ⟨b, t, q, h1, h4, ih h5⟩
theorem wgt_pos {k : Bool × Addr} {h : Nat} {t : Tr} (a : AtP w K k h t) : 1 ≤ wgtK k.1 h t := by
  obtain ⟨-, -, cs, -, -, r⟩ := a
  cases h with
  | zero =>
    cases hk : k.1
    · rw [hk] at r; exact r.elim
    · rw [hk] at r; exact r.elim
  | succ h =>
    unfold wgtK
    split
    · show 1 ≤ 1 + _ + _ + _
      omega
    · show 1 ≤ 1 + _ + _ + _
      omega
theorem Bud.len {l : List (Bool × Addr)} {n : Nat} (h : Bud w K R l n) : l.length ≤ n := by
  induction l generalizing n with
  | nil => exact Nat.zero_le _
  | cons p l ih =>
    obtain ⟨a, t, q, h1, h4, h5⟩ := h
    have h6 := ih h5
    have h7 := wgt_pos h1.1
    rw [List.length_cons]
    omega
/-- A row's elements stand at its places. -/
theorem row_at {Q : Tr → List Value → Prop} {o : Option Addr} {xs : List Tr} {sz d : Nat} {b : Bool} {h : Nat} (hx : RowOf K w Q sz o xs) (hR : ∀ (a : Addr) (x : Tr) (cs : List Value), a.spot = none → K a.block → CellsA w a cs → cs.length = sz → Q x cs → ∀ c, c = x → AtP w K (b, ⟨a.block, a.off + d, none⟩) h c) :
    ∀ (i : Nat) (x : Tr), xs[i]? = some x → (⟨bOf o, fOf o + i * sz + d, none⟩ : Addr) ∈ rowA o sz d xs.length ∧ AtP w K (b, ⟨bOf o, fOf o + i * sz + d, none⟩) h x := by
  intro i x hi
  have hlt := (List.getElem?_eq_some_iff.1 hi).1
  obtain ⟨bb, off, rfl, kb, -, hc⟩ := hx (fun e => by rw [e] at hlt; cases hlt)
  obtain ⟨cs, hl, hcell, hr⟩ := hc i x hi
  refine ⟨List.mem_map.2 ⟨i, List.mem_range.2 hlt, rfl⟩, ?_⟩
  exact hR ⟨bb, off + i * sz, none⟩ x cs rfl kb hcell hl hr x rfl
theorem rowBud {o : Option Addr} {sz d : Nat} {b : Bool} (f : Tr → Nat) (xs : List Tr) (hx : ∀ (i : Nat) (x : Tr), xs[i]? = some x → ∃ h t, (AtP w K (b, ⟨bOf o, fOf o + i * sz + d, none⟩) h t ∧ ∀ y, bndK b h t y → R y) ∧ wgtK b h t ≤ f x) : Bud w K R ((rowA o sz d xs.length).map fun a => (b, a)) (xs.map f).sum := by
  have key : ∀ i, i ≤ xs.length → Bud w K R ((rowA o sz d i).map fun a => (b, a)) ((xs.take i).map f).sum := by
    intro i
    induction i with
    | zero => intro _; trivial
    | succ i ih =>
      intro hi
      rw [rowA_succ, List.map_append, sum_take_succ f xs i (by omega)]
      obtain ⟨h, t, h1, h2⟩ := hx i xs[i] (List.getElem?_eq_getElem (by omega))
      exact (ih (by omega)).join ⟨h, t, 0, h1, by simpa using h2, trivial⟩
  have h9 := key xs.length (Nat.le_refl _)
  rw [List.take_length] at h9
  exact h9
/-- What stands behind a place that was looked at: its parts, at places. -/
def Kids (w : World) (K : Nat → Prop) (ks : List (Bool × Addr)) (k : Bool × Addr) : Prop := ∃ h t, AtP w K k h t ∧
  (∀ c ∈ t.l, ∃ k' ∈ ks, k'.1 = true ∧ ∃ h', AtP w K k' h' c) ∧ (∀ c ∈ t.ds, ∃ k' ∈ ks, k'.1 = false ∧ ∃ h', AtP w K k' h' c) ∧ (∀ a ∈ t.al, ∀ c ∈ a.l, ∃ k' ∈ ks, k'.1 = true ∧ ∃ h', AtP w K k' h' c)
theorem Kids.more {ks ks' : List (Bool × Addr)} {k : Bool × Addr} (h : Kids w K ks k) (hs : ∀ x ∈ ks, x ∈ ks') : Kids w K ks' k := by
  obtain ⟨h, t, h1, h2, h3, h4⟩ := h
  exact ⟨h, t, h1, fun c hc => (by obtain ⟨k', a, b⟩ := h2 c hc; exact ⟨k', hs k' a, b⟩), fun c hc => (by obtain ⟨k', a, b⟩ := h3 c hc; exact ⟨k', hs k' a, b⟩), fun a ha c hc => (by obtain ⟨k', x, b⟩ := h4 a ha c hc; exact ⟨k', hs k' x, b⟩)⟩
/-- Of a place nothing is bound that R does not have. -/
def Snd (w : World) (K : Nat → Prop) (R : ByteArray → Prop) (N : Nat) (k : Bool × Addr) : Prop := ∃ h t, AtP w K k h t ∧ (∀ y, bndK k.1 h t y → R y) ∧ wgtK k.1 h t ≤ N
end
end Go.Proofs.YtlaeenfeajkcfalGreat.Fr

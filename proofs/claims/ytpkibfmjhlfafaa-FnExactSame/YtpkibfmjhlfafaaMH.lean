/- Plain facts: cells are one tree only; what was put is there. -/
import Derived.Test.YtpkibfmjhlfafaaXA
import Derived.Test.YtpkibfmjhlfafaaME
namespace Go.Proofs.Ytpkibfmjhlfafaa
open Go.RowKit

theorem tr_ext {a b : Tr} (h1 : a.k = b.k) (h2 : a.s = b.s) (h3 : a.n = b.n) (h4 : a.ss = b.ss) (h5 : a.l = b.l) (h6 : a.ds = b.ds) (h7 : a.al = b.al) : a = b := by
  cases a
  cases b
  simp_all
theorem row_fun {α : Type} {K K' : Nat → Prop} {w : World} {R R' : α → List Value → Prop} {sz : Nat} {o : Option Addr} {xs ys : List α} (h1 : RowOf K w R sz o xs) (h2 : RowOf K' w R' sz o ys) (hl : xs.length = ys.length)
    (hR : ∀ x y cs, R x cs → R' y cs → x = y) : xs = ys := by
  apply List.ext_getElem hl
  intro i hi hj
  have hne : xs ≠ [] := fun e => by rw [e] at hi; cases hi
  have hne2 : ys ≠ [] := fun e => by rw [e] at hj; cases hj
  obtain ⟨b, off, e1, -, -, hc⟩ := h1 hne
  obtain ⟨b2, off2, e2, -, -, hc2⟩ := h2 hne2
  rw [e1] at e2
  cases e2
  obtain ⟨cs, l1, r1, q1⟩ := hc i xs[i] (List.getElem?_eq_getElem hi)
  obtain ⟨cs2, l2, r2, q2⟩ := hc2 i ys[i] (List.getElem?_eq_getElem hj)
  have : cs = cs2 := by
    apply List.ext_getElem (l1.trans l2.symm)
    intro j ja jb
    have a1 := r1 j cs[j] (List.getElem?_eq_getElem ja)
    have a2 := r2 j cs2[j] (List.getElem?_eq_getElem jb)
    rw [a1] at a2
    exact Option.some.inj a2
  subst this
  exact hR _ _ _ q1 q2
theorem strR_fun (x y : ByteArray) (cs : List Value) (h1 : strR x cs) (h2 : strR y cs) : x = y := by
  have e := h1.1.symm.trans h2.1
  simpa using e
theorem reads_fun {K K' : Nat → Prop} {w : World} : ∀ h1 h2, (∀ t u cs, (reads K w h1).ex t cs → (reads K' w h2).ex u cs → t = u) ∧ (∀ t u cs, (reads K w h1).de t cs → (reads K' w h2).de u cs → t = u) ∧ (∀ t u cs, (reads K w h1).al t cs → (reads K' w h2).al u cs → t = u) := by
  intro h1
  induction h1 with
  | zero => exact fun _ => ⟨fun _ _ _ h => False.elim h, fun _ _ _ h => False.elim h, fun _ _ _ h => False.elim h⟩
  | succ h1 ih =>
    intro h2
    cases h2 with
    | zero => exact ⟨fun _ _ _ _ h => False.elim h, fun _ _ _ _ h => False.elim h, fun _ _ _ _ h => False.elim h⟩
    | succ h2 =>
      obtain ⟨i1, i2, i3⟩ := ih h2
      refine ⟨fun t u cs a b => ?_, fun t u cs a b => ?_, fun t u cs a b => ?_⟩
      · obtain ⟨z, o1, c1, o2, c2, o3, c3, ec, -, -, -, -, r1, r2, r3⟩ := a
        obtain ⟨z', p1, d1, p2, d2, p3, d3, ed, -, -, -, -, q1, q2, q3⟩ := b
        rw [ec] at ed
        simp only [List.cons.injEq, Value.int.injEq, Value.string.injEq, Value.slice.injEq, true_and, and_true] at ed
        obtain ⟨k1, k2, k3, ⟨m1, n1, -⟩, ⟨m2, n2, -⟩, m3, n3, -⟩ := ed
        subst m1 m2 m3
        exact tr_ext k1 k2 k3 (z.trans z'.symm) (row_fun r1 q1 n1 i1) (row_fun r2 q2 n2 i2) (row_fun r3 q3 n3 i3)
      · obtain ⟨z1, z2, z3, e, o1, c1, ce, o2, c2, el, ec, -, -, -, r1, lc, re, r2⟩ := a
        obtain ⟨y1, y2, y3, f, p1, d1, de, p2, d2, fl, ed, -, -, -, q1, ld, qe, q2⟩ := b
        rw [ec] at ed
        simp only [List.cons_append, List.nil_append, List.cons.injEq, Value.string.injEq, Value.slice.injEq] at ed
        obtain ⟨k2, ⟨m1, n1, -⟩, ed⟩ := ed
        have hz := List.append_inj ed (lc.trans ld.symm)
        have hce := hz.1
        have hsl := hz.2
        subst hce
        rw [List.cons.injEq, Value.slice.injEq] at hsl
        obtain ⟨⟨m2, n2, -⟩, -⟩ := hsl
        subst m1 m2
        exact tr_ext (z1.trans y1.symm) k2 (z2.trans y2.symm) (row_fun r1 q1 n1 strR_fun) (by rw [el, fl, i1 _ _ _ re qe]) (row_fun r2 q2 n2 i2) (z3.trans y3.symm)
      · obtain ⟨z1, z2, z3, z4, e, o1, c1, ce, el, ec, -, -, r1, lc, re⟩ := a
        obtain ⟨y1, y2, y3, y4, f, p1, d1, de, fl, ed, -, -, q1, ld, qe⟩ := b
        rw [ec] at ed
        simp only [List.cons_append, List.nil_append, List.cons.injEq, Value.string.injEq, Value.slice.injEq] at ed
        obtain ⟨k2, ⟨m1, n1, -⟩, rfl⟩ := ed
        subst m1
        exact tr_ext (z1.trans y1.symm) k2 (z2.trans y2.symm) (row_fun r1 q1 n1 strR_fun) (by rw [el, fl, i1 _ _ _ re qe]) (z3.trans y3.symm) (z4.trans y4.symm)

theorem hasK_more {ks : List (Addr × Addr)} {k : Addr × Addr} (h : hasK ks k = true) (r : List (Addr × Addr)) : hasK (ks ++ r) k = true := by
  unfold hasK at *
  rw [List.any_append, h, Bool.true_or]
theorem hasK_mem {ks : List (Addr × Addr)} {k : Addr × Addr} : hasK ks k = true ↔ k ∈ ks := by
  unfold hasK
  rw [List.any_eq_true]
  constructor
  · rintro ⟨l, hl, h⟩
    simp only [Bool.and_eq_true, beq_iff_eq] at h
    have : k = l := Prod.ext h.1 h.2
    exact this ▸ hl
  · exact fun h => ⟨k, h, by simp⟩
/-- Of what was put, each is there, or is the same place twice. -/
theorem adds_has (ks p : List (Addr × Addr)) : ∀ l ∈ p, l.1 = l.2 ∨ l ∈ ks ++ adds ks p := by
  induction p generalizing ks with
  | nil => intro l hl; cases hl
  | cons x r ih =>
    intro l hl
    rw [adds, ← List.append_assoc]
    rcases List.mem_cons.1 hl with rfl | hl
    · cases hs : (l.1 == l.2 || hasK ks l)
      · rw [newOf_put hs]
        right
        simp
      · rcases Bool.or_eq_true_iff.1 hs with h | h
        · exact Or.inl (by simpa using h)
        · right
          exact List.mem_append_left _ (List.mem_append_left _ (hasK_mem.1 h))
    · exact ih _ l hl
end Go.Proofs.Ytpkibfmjhlfafaa

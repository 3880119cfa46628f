/- One pair of definitions, one pair of alternatives, looked at. -/
import Derived.Test.YteoghpefilghdalHQ
import Derived.Test.YteoghpefilghdalHNt
namespace Go.Proofs.Yteoghpefilghdal
open Go.RowKit

section
variable {W : World} {K : Nat → Prop} {F : Prop}
theorem cells_in {b o : Nat} {v0 v1 : Value} {ce r : List Value} (h : CellsAt W ⟨b, o, none⟩ ([v0, v1] ++ ce ++ r)) : CellsAt W ⟨b, o + 2, none⟩ ce := by
  intro j u hu
  have hj : j < ce.length := (List.getElem?_eq_some_iff.1 hu).1
  have h2 := h (2 + j) u (by
    rw [List.append_assoc, List.getElem?_append_right (by simp), show 2 + j - [v0, v1].length = j by simp, List.getElem?_append_left hj]
    exact hu)
  have e : o + 2 + j = o + (2 + j) := by omega
  show W.cell? ⟨b, o + 2 + j, none⟩ = some u
  rw [e]
  exact h2
theorem new_kids {h h' : Nat} {q : Addr × Addr} {e f : Tr} {ks ks' : Nat → List (Addr × Addr)} (a : AtH W K 0 h q.1 e) (b : AtH W K 0 h' q.2 f) (he : ks' 0 = ks 0 ++ newOf (ks 0) q) : Kids W K ks' 0 [e] [f] := by
  intro k x y hx hy
  match k, hx, hy with
  | 0, hx, hy =>
    have ex : e = x := by simpa using hx
    have ey : f = y := by simpa using hy
    subst ex ey
    refine ⟨q, ⟨h, a⟩, ⟨h', b⟩, ?_⟩
    have h1 := adds_has (ks 0) [q] q (List.mem_singleton.2 rfl)
    rw [he]
    simpa [adds] using h1
  | k + 1, hx, _ => simp at hx
theorem new_wt {h h' : Nat} {q : Addr × Addr} {e f : Tr} (ks : List (Addr × Addr)) (a : AtH W K 0 h q.1 e) (b : AtH W K 0 h' q.2 f) (hF : F → e = f) : WtL W K F 0 (newOf ks q) (ndh h e) :=
  WtL.newOf ks ⟨h, e, h', f, 0, a, b, hF, by omega, trivial⟩
theorem kids_nil {ks : Nat → List (Addr × Addr)} (j : Nat) : Kids W K ks j [] [] := fun k a b h _ => by simp at h
end

theorem look_dec {W w : World} {K KP : Nat → Prop} {F : Prop} {g h h' : Nat} {x y : Addr} {t u : Tr} {ls ks : Nat → List (Addr × Addr)} (hKP : ∀ b, KP b → K b) (hk : Keeps K W w) (hp : ∀ b, KP b → PlainAt W ⟨b, 0, none⟩) (hh : HeldMem TT w K g ls ks) (ax : AtH W KP 1 h x t) (ay : AtH W KP 1 h' y u)
    (hn0 : (ls 0).length ≤ 10000000) (hn1 : (ls 1).length + t.ds.length ≤ 10000000) :
    Calls Try.prog 39 #[.pointer (some ⟨g, 0, none⟩), .pointer (some x), .pointer (some y)] w (Look W K KP F g 1 h x y t u ls ks) := by
  obtain ⟨xb, xo, xs⟩ := x
  obtain ⟨yb, yo, ys⟩ := y
  obtain ⟨sx, kx, cs, lc, cx, rx⟩ := ax
  obtain ⟨sy, ky, ds, ld, cy, ry⟩ := ay
  simp only at sx sy kx ky
  subst sx sy
  have rx2 : (reads KP W h).de t cs := rx
  have ry2 : (reads KP W h').de u ds := ry
  have st := (st_keeps hk).less hKP
  have RX := (reads_le (h' := max h h') (Nat.le_max_left _ _)).2.1 _ _ ((reads_frame st (fun _ h => h) h).2.1 _ _ rx2)
  have RY := (reads_le (h' := max h h') (Nat.le_max_right _ _)).2.1 _ _ ((reads_frame st (fun _ h => h) h').2.1 _ _ ry2)
  cases h with
  | zero => exact rx2.elim
  | succ h =>
  cases h' with
  | zero => exact ry2.elim
  | succ h' =>
  obtain ⟨z1, z2, z3, e, o1, c1, ce, o2, c2, te, ec, -, -, -, r1, le, re, r2⟩ := rx2
  obtain ⟨y1, y2, y3, f, p1, d1, de, p2, d2, ue, ed, -, -, -, q1, lf, rf, q2⟩ := ry2
  have e8 : cs[8]? = some (.slice o2 t.ds.length c2) := by rw [ec]; exact z8_of le
  have f8 : ds[8]? = some (.slice p2 u.ds.length d2) := by rw [ed]; exact z8_of lf
  refine (held_dec xb xo yb yo g w K KP hKP ls ks hh t u cs ds o2 p2 c2 d2 RX RY e8 f8 (cells_keep hk (hKP _ kx) cx) (cells_keep hk (hKP _ ky) cy) kx ky (fun b hb => (hp b hb).block (hk.block b (hKP b hb))) hn0 hn1).mono ?_
  rintro e' w' ⟨rfl, hk2, hm⟩
  refine ⟨rootD t u, rfl, hk.trans hk2, fun hb he => ?_, fun hb => ⟨_, _, hm hb, fun hF => ?_⟩⟩
  · rw [he, rootD_self] at hb; cases hb
  · obtain ⟨k2, k4, l2⟩ := rootD_parts hb
    have ax : AtH W KP 0 h ⟨xb, xo + 2, none⟩ e := ⟨rfl, kx, ce, le, by rw [ec] at cx; exact cells_in cx, re⟩
    have ay : AtH W KP 0 h' ⟨yb, yo + 2, none⟩ f := ⟨rfl, ky, de, lf, by rw [ed] at cy; exact cells_in cy, rf⟩
    refine ⟨⟨fun j => if j = 0 then newOf (ks 0) (⟨xb, xo + 2, none⟩, ⟨yb, yo + 2, none⟩) else if j = 1 then puts (ks 1) o2 p2 9 t.ds.length u.ds.length else [], fun j hj => ?_, _, _, 0, 0, new_wt (ks 0) ax ay (fun f => ?_), puts_wt (j := 1) (ks 1) r2 q2 l2 (fun f => by rw [hF f]), trivial, trivial, ?_⟩, ?_⟩
    · match j, hj with
      | 0, _ => exact ⟨rfl, rfl⟩
      | 1, _ => exact ⟨rfl, rfl⟩
      | 2, _ => exact ⟨(List.append_nil _).symm, (List.append_nil _).symm⟩
      | 3, _ => exact ⟨(List.append_nil _).symm, (List.append_nil _).symm⟩
    · have h9 := hF f
      rw [h9, ue] at te
      simpa using te.symm
    · show _ ≤ 1 + (t.l.map (ndh h)).sum + (t.ds.map (ndh h)).sum + (t.al.map (ndh h)).sum - 1
      rw [te]
      simp only [List.map_cons, List.map_nil, List.sum_cons, List.sum_nil]
      omega
    · refine ⟨t, u, ⟨_, rfl, kx, _, lc, cx, rx⟩, ⟨_, rfl, ky, _, ld, cy, ry⟩, ⟨z1.trans y1.symm, k2, z2.trans y2.symm, k4⟩, ⟨by rw [te, ue]; rfl, l2, by rw [z3, y3]⟩, ?_, puts_kids (j := 1) r2 q2 l2 rfl, ?_⟩
      · rw [te, ue]
        exact new_kids ax ay rfl
      · rw [z3, y3]
        exact kids_nil 2

theorem look_alt {W w : World} {K KP : Nat → Prop} {F : Prop} {g h h' : Nat} {x y : Addr} {t u : Tr} {ls ks : Nat → List (Addr × Addr)} (hKP : ∀ b, KP b → K b) (hk : Keeps K W w) (hp : ∀ b, KP b → PlainAt W ⟨b, 0, none⟩) (hh : HeldMem TT w K g ls ks) (ax : AtH W KP 2 h x t) (ay : AtH W KP 2 h' y u)
    (hn0 : (ls 0).length ≤ 10000000) :
    Calls Try.prog 41 #[.pointer (some ⟨g, 0, none⟩), .pointer (some x), .pointer (some y)] w (Look W K KP F g 2 h x y t u ls ks) := by
  obtain ⟨xb, xo, xs⟩ := x
  obtain ⟨yb, yo, ys⟩ := y
  obtain ⟨sx, kx, cs, lc, cx, rx⟩ := ax
  obtain ⟨sy, ky, ds, ld, cy, ry⟩ := ay
  simp only at sx sy kx ky
  subst sx sy
  have rx2 : (reads KP W h).al t cs := rx
  have ry2 : (reads KP W h').al u ds := ry
  have st := (st_keeps hk).less hKP
  have RX := (reads_le (h' := max h h') (Nat.le_max_left _ _)).2.2 _ _ ((reads_frame st (fun _ h => h) h).2.2 _ _ rx2)
  have RY := (reads_le (h' := max h h') (Nat.le_max_right _ _)).2.2 _ _ ((reads_frame st (fun _ h => h) h').2.2 _ _ ry2)
  cases h with
  | zero => exact rx2.elim
  | succ h =>
  cases h' with
  | zero => exact ry2.elim
  | succ h' =>
  obtain ⟨z1, z2, z3, z4, e, o1, c1, ce, te, ec, -, -, r1, le, re⟩ := rx2
  obtain ⟨y1, y2, y3, y4, f, p1, d1, de, ue, ed, -, -, q1, lf, rf⟩ := ry2
  refine (held_alt xb xo yb yo g w K ls ks hh t u cs ds ((reads_frame (K' := K) (Stays.refl _ _) hKP _).2.2 _ _ RX) ((reads_frame (K' := K) (Stays.refl _ _) hKP _).2.2 _ _ RY) (cells_keep hk (hKP _ kx) cx) (cells_keep hk (hKP _ ky) cy) (hKP _ kx) (hKP _ ky) ((hp _ kx).block (hk.block _ (hKP _ kx))) ((hp _ ky).block (hk.block _ (hKP _ ky))) hn0).mono ?_
  rintro e' w' ⟨rfl, hm, hk2⟩
  refine ⟨_, rfl, hk.trans hk2, fun hb he => ?_, fun hb => ⟨_, _, hm, fun hF => ?_⟩⟩
  · rw [he, (eqS_iff u.s u.s).2 rfl, (strsB_iff u.ss u.ss).2 rfl] at hb; cases hb
  · simp only [Bool.and_eq_true, eqS_iff, strsB_iff] at hb
    have ax : AtH W KP 0 h ⟨xb, xo + 2, none⟩ e := ⟨rfl, kx, ce, le, by rw [ec] at cx; exact cells_in (r := []) (by rw [List.append_nil]; exact cx), re⟩
    have ay : AtH W KP 0 h' ⟨yb, yo + 2, none⟩ f := ⟨rfl, ky, de, lf, by rw [ed] at cy; exact cells_in (r := []) (by rw [List.append_nil]; exact cy), rf⟩
    refine ⟨⟨fun j => if j = 0 then newOf (ks 0) (⟨xb, xo + 2, none⟩, ⟨yb, yo + 2, none⟩) else [], fun j hj => ?_, _, 0, 0, 0, new_wt (ks 0) ax ay (fun f => ?_), trivial, trivial, trivial, ?_⟩, ?_⟩
    · match j, hj with
      | 0, _ => exact ⟨rfl, rfl⟩
      | 1, _ => exact ⟨(List.append_nil _).symm, (List.append_nil _).symm⟩
      | 2, _ => exact ⟨(List.append_nil _).symm, (List.append_nil _).symm⟩
      | 3, _ => exact ⟨(List.append_nil _).symm, (List.append_nil _).symm⟩
    · have h9 := hF f
      rw [h9, ue] at te
      simpa using te.symm
    · show _ ≤ 1 + (t.l.map (ndh h)).sum + (t.ds.map (ndh h)).sum + (t.al.map (ndh h)).sum - 1
      rw [te]
      simp only [List.map_cons, List.map_nil, List.sum_cons, List.sum_nil]
      omega
    · refine ⟨t, u, ⟨_, rfl, kx, _, lc, cx, rx⟩, ⟨_, rfl, ky, _, ld, cy, ry⟩, ⟨z1.trans y1.symm, hb.1, z2.trans y2.symm, hb.2⟩, ⟨by rw [te, ue]; rfl, by rw [z3, y3], by rw [z4, y4]⟩, ?_, ?_, ?_⟩
      · rw [te, ue]
        exact new_kids ax ay rfl
      · rw [z3, y3]
        exact kids_nil 1
      · rw [z4, y4]
        exact kids_nil 2

theorem rootT_self (t : Tr) : rootT t t = true := by
  unfold rootT
  rw [(eqS_iff t.s t.s).2 rfl]
  simp
theorem rootT_parts {t u : Tr} (h : rootT t u = true) : (t.k = u.k ∧ t.s = u.s ∧ t.n = u.n) ∧ t.l.length = u.l.length := by
  unfold rootT at h
  simp only [Bool.and_eq_true, decide_eq_true_eq, eqS_iff] at h
  exact ⟨⟨h.1, h.2.1, h.2.2.1⟩, h.2.2.2⟩
theorem look_ty {W w : World} {K KP : Nat → Prop} {F : Prop} {g h h' : Nat} {x y : Addr} {t u : Tr} {ls ks : Nat → List (Addr × Addr)} (hKP : ∀ b, KP b → K b) (hk : Keeps K W w) (hp : ∀ b, KP b → PlainAt W ⟨b, 0, none⟩) (hh : HeldMem TT w K g ls ks) (ax : AtH W KP 3 h x t) (ay : AtH W KP 3 h' y u)
    (hn3 : (ls 3).length + t.l.length ≤ 10000000) :
    Calls Try.prog 43 #[.pointer (some ⟨g, 0, none⟩), .pointer (some x), .pointer (some y)] w (Look W K KP F g 3 h x y t u ls ks) := by
  obtain ⟨xb, xo, xs⟩ := x
  obtain ⟨yb, yo, ys⟩ := y
  obtain ⟨sx, kx, cs, lc, cx, rx⟩ := ax
  obtain ⟨sy, ky, ds, ld, cy, ry⟩ := ay
  simp only at sx sy kx ky
  subst sx sy
  have rx2 : tyR KP W h t cs := rx
  have ry2 : tyR KP W h' u ds := ry
  obtain ⟨o1, c1, rfl⟩ := ty_form rx2
  obtain ⟨p1, d1, rfl⟩ := ty_form ry2
  have st := (st_keeps hk).less hKP
  have RX := tyR_le (h' := max h h') (Nat.le_max_left _ _) _ _ (tyR_frame st (fun _ h => h) h _ _ rx2)
  have RY := tyR_le (h' := max h h') (Nat.le_max_right _ _) _ _ (tyR_frame st (fun _ h => h) h' _ _ ry2)
  refine (held_ty xb xo yb yo g w K KP hKP ls ks hh t u o1 p1 c1 d1 RX RY (cells_keep hk (hKP _ kx) cx) (cells_keep hk (hKP _ ky) cy) kx ky (fun b hb => (hp b hb).block (hk.block b (hKP b hb))) hn3).mono ?_
  rintro e w' ⟨rfl, hk2, hm⟩
  refine ⟨rootT t u, rfl, hk.trans hk2, fun hb e => ?_, fun hb => ⟨_, _, hm hb, fun hF => ?_⟩⟩
  · rw [e, rootT_self] at hb; cases hb
  · obtain ⟨⟨k1, k2, k3⟩, l1⟩ := rootT_parts hb
    cases h with
    | zero => exact rx2.elim
    | succ h =>
    cases h' with
    | zero => exact ry2.elim
    | succ h' =>
    obtain ⟨a1, a2, a3, o1', c1', e1, -, -, r1⟩ := rx2
    obtain ⟨b1, b2, b3, p1', d1', e2, -, -, q1⟩ := ry2
    simp only [List.cons.injEq, Value.slice.injEq, true_and, and_true] at e1 e2
    obtain ⟨rfl, rfl⟩ := e1
    obtain ⟨rfl, rfl⟩ := e2
    refine ⟨⟨fun j => if j = 3 then puts (ks 3) o1 p1 4 t.l.length u.l.length else [], fun j hj => ?_, 0, 0, 0, _, trivial, trivial, trivial, puts_wt (j := 3) (ks 3) r1 q1 l1 (fun f => by rw [hF f]), ?_⟩, ?_⟩
    · match j, hj with
      | 0, _ => exact ⟨(List.append_nil _).symm, (List.append_nil _).symm⟩
      | 1, _ => exact ⟨(List.append_nil _).symm, (List.append_nil _).symm⟩
      | 2, _ => exact ⟨(List.append_nil _).symm, (List.append_nil _).symm⟩
      | 3, _ => exact ⟨rfl, rfl⟩
    · show _ ≤ 1 + (t.l.map (ndh h)).sum + (t.ds.map (ndh h)).sum + (t.al.map (ndh h)).sum - 1
      omega
    · refine ⟨t, u, ⟨_, rfl, kx, _, rfl, cx, rx⟩, ⟨_, rfl, ky, _, rfl, cy, ry⟩, ⟨k1, k2, k3, a1.trans b1.symm⟩, ⟨l1, by rw [a2, b2], by rw [a3, b3]⟩, puts_kids (j := 3) r1 q1 l1 rfl, ?_, ?_⟩
      · rw [a2, b2]
        exact kids_nil 1
      · rw [a3, b3]
        exact kids_nil 2
end Go.Proofs.Yteoghpefilghdal

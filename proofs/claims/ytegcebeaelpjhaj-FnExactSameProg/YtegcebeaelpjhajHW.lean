/- The program's slices.EqualFunc at makers, with held.cons. -/
import Derived.Test.YtegcebeaelpjhajHV
namespace Go.Proofs.Ytegcebeaelpjhaj
open Go.ChangeShapes Go.WideShapes Go.ChangeAt Go.RowKit

/-- What is held has grown by pairs of some weight. -/
def Grown (W : World) (KP : Nat → Prop) (F : Prop) (ls ks ls' ks' : Nat → List (Addr × Addr)) (n : Nat) : Prop := ∃ a : Nat → List (Addr × Addr), (∀ j, j < 4 → ls' j = ls j ++ a j ∧ ks' j = ks j ++ a j) ∧ ∃ n0 n1 n2 n3, WtL W KP F 0 (a 0) n0 ∧ WtL W KP F 1 (a 1) n1 ∧ WtL W KP F 2 (a 2) n2 ∧ WtL W KP F 3 (a 3) n3 ∧ n0 + n1 + n2 + n3 ≤ n
theorem Grown.refl {W : World} {KP : Nat → Prop} {F : Prop} (ls ks : Nat → List (Addr × Addr)) : Grown W KP F ls ks ls ks 0 :=
  ⟨fun _ => [], fun j _ => ⟨(List.append_nil _).symm, (List.append_nil _).symm⟩, 0, 0, 0, 0, trivial, trivial, trivial, trivial, by omega⟩
theorem Grown.trans {W : World} {KP : Nat → Prop} {F : Prop} {l1 k1 l2 k2 l3 k3 : Nat → List (Addr × Addr)} {n m : Nat} (h : Grown W KP F l1 k1 l2 k2 n) (k : Grown W KP F l2 k2 l3 k3 m) : Grown W KP F l1 k1 l3 k3 (n + m) := by
  obtain ⟨a, ha, n0, n1, n2, n3, w0, w1, w2, w3, hn⟩ := h
  obtain ⟨b, hb, m0, m1, m2, m3, v0, v1, v2, v3, hm⟩ := k
  refine ⟨fun j => a j ++ b j, fun j hj => ?_, n0 + m0, n1 + m1, n2 + m2, n3 + m3, w0.join v0, w1.join v1, w2.join v2, w3.join v3, by omega⟩
  rw [(hb j hj).1, (hb j hj).2, (ha j hj).1, (ha j hj).2, List.append_assoc, List.append_assoc]
  exact ⟨rfl, rfl⟩
theorem Grown.in {W : World} {KP : Nat → Prop} {F : Prop} {l1 k1 l2 k2 : Nat → List (Addr × Addr)} {n : Nat} (h : Grown W KP F l1 k1 l2 k2 n) : ∀ j, j < 4 → ∀ p ∈ k1 j, p ∈ k2 j := by
  obtain ⟨a, ha, -⟩ := h
  intro j hj p hp
  rw [(ha j hj).2]
  exact List.mem_append_left _ hp
theorem Grown.len {W : World} {KP : Nat → Prop} {F : Prop} {l1 k1 l2 k2 : Nat → List (Addr × Addr)} {n : Nat} (h : Grown W KP F l1 k1 l2 k2 n) : ∀ j, j < 4 → (l2 j).length ≤ (l1 j).length + n := by
  obtain ⟨a, ha, n0, n1, n2, n3, w0, w1, w2, w3, hn⟩ := h
  intro j hj
  rw [(ha j hj).1, List.length_append]
  have h0 := w0.len
  have h1 := w1.len
  have h2 := w2.len
  have h3 := w3.len
  match j, hj with
  | 0, _ | 1, _ | 2, _ | 3, _ => omega
/-- Of two makers: the names, how many types, and that their types are put. -/
def ConOk (W : World) (KP : Nat → Prop) (ks : Nat → List (Addr × Addr)) (a b : Tr) : Prop := a.s = b.s ∧ a.l.length = b.l.length ∧ Kids W KP ks 3 a.l b.l
def wcn (h : Nat) (c : Tr) : Nat := (c.l.map (ndh h)).sum
theorem rootN_self (t : Tr) : rootN t t = true := by
  unfold rootN
  rw [(eqS_iff t.s t.s).2 rfl]
  simp
theorem rootN_parts {t u : Tr} (h : rootN t u = true) : t.s = u.s ∧ t.l.length = u.l.length := by
  unfold rootN at h
  simp only [Bool.and_eq_true, decide_eq_true_eq, eqS_iff] at h
  exact h
/-- One pair of makers looked at. -/
theorem look_cons {W w : World} {K KP : Nat → Prop} {F : Prop} {g h : Nat} {t u : Tr} {ls ks : Nat → List (Addr × Addr)} {ca cb : List Value} (hKP : ∀ b, KP b → K b) (hk : Keeps K W w) (hp : ∀ b, KP b → PlainAt W ⟨b, 0, none⟩) (hh : HeldMem TT w K g ls ks) (rx : coR KP W h t ca) (ry : coR KP W h u cb)
    (hn3 : (ls 3).length + t.l.length ≤ 10000000) :
    Calls Try.prog 59 #[.pointer (some ⟨g, 0, none⟩), .agg ca.toArray, .agg cb.toArray] w fun e w' => ∃ b, e = .returned (.bool b) ∧ Keeps K W w' ∧ (b = false → t ≠ u) ∧ (b = true → ∃ ls' ks', HeldMem TT w' K g ls' ks' ∧ (∀ j, j < 4 → ∀ q ∈ ks j, q ∈ ks' j) ∧ (ls' 3).length ≤ (ls 3).length + t.l.length ∧ ((F → t = u) → Grown W KP F ls ks ls' ks' (wcn h t)) ∧ ConOk W KP ks' t u) := by
  obtain ⟨o1, c1, rfl⟩ := co_form rx
  obtain ⟨p1, d1, rfl⟩ := co_form ry
  have st := (st_keeps hk).less hKP
  refine (held_cons g w K KP hKP ls ks hh t u o1 p1 c1 d1 (coR_frame st (fun _ h => h) h _ _ rx) (coR_frame st (fun _ h => h) h _ _ ry) (fun b hb => (hp b hb).block (hk.block b (hKP b hb))) hn3).mono ?_
  rintro e w' ⟨rfl, hk2, hm⟩
  refine ⟨rootN t u, rfl, hk.trans hk2, fun hb e => ?_, fun hb => ?_⟩
  · rw [e, rootN_self] at hb; cases hb
  · obtain ⟨k2, l1⟩ := rootN_parts hb
    obtain ⟨-, -, -, -, -, o1', c1', e1, -, -, r1⟩ := rx
    obtain ⟨-, -, -, -, -, p1', d1', e2, -, -, q1⟩ := ry
    simp only [List.cons.injEq, Value.slice.injEq, true_and, and_true] at e1 e2
    obtain ⟨rfl, rfl⟩ := e1
    obtain ⟨rfl, rfl⟩ := e2
    refine ⟨_, _, hm hb, fun j hj q hq => ?_, ?_, fun hF => ?_, k2, l1, puts_kids (j := 3) (ks := ks) r1 q1 l1 rfl⟩
    · by_cases h3 : j = 3
      · subst h3
        rw [upd_at]
        exact List.mem_append_left _ hq
      · rw [upd_other _ _ h3]
        exact hq
    · rw [upd_at, List.length_append]
      have h9 : (puts (ks 3) o1 p1 4 t.l.length u.l.length).length ≤ t.l.length := by
        unfold puts
        rw [if_pos l1]
        have h8 := adds_len (ks 3) (places (blkOf o1) (offOf o1) (blkOf p1) (offOf p1) 4 t.l.length)
        rw [places_len] at h8
        exact h8
      omega
    refine ⟨fun j => if j = 3 then puts (ks 3) o1 p1 4 t.l.length u.l.length else [], fun j hj => ?_, 0, 0, 0, _, trivial, trivial, trivial, puts_wt (j := 3) (ks 3) r1 q1 l1 (fun f => by rw [hF f]), by unfold wcn; omega⟩
    match j, hj with
    | 0, _ => exact ⟨(List.append_nil _).symm, (List.append_nil _).symm⟩
    | 1, _ => exact ⟨(List.append_nil _).symm, (List.append_nil _).symm⟩
    | 2, _ => exact ⟨(List.append_nil _).symm, (List.append_nil _).symm⟩
    | 3, _ => exact ⟨rfl, rfl⟩
end Go.Proofs.Ytegcebeaelpjhaj

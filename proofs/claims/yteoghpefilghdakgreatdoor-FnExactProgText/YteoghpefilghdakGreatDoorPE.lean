/- What is right of types, plainly; the model's measure of a type. -/
import Derived.Test.YteoghpefilghdakGreatDoorPD
import Derived.Test.YteoghpefilghdakGreatDoorYC
namespace Go.Proofs.YteoghpefilghdakGreatDoor
open Go.ChangeShapes Go.WideShapes Go.ChangeAt Go.RowKit

def givenT (s : ByteArray) : Bool := s.toList == [73, 110, 116] || s.toList == [66, 111, 111, 108]
def givenC (s : ByteArray) : Bool := s.toList == [84, 114, 117, 101] || s.toList == [70, 97, 108, 115, 101]
/-- A name of a type that is told by its name. -/
def tyNm (s : ByteArray) : Bool := grB s && !givenT s
/-- A great name that a program may give to what is its own. -/
def ownB (s : ByteArray) : Bool := grB s && !(givenT s || givenC s)
/-- A type is right, but for its parts. -/
def tyHere (t : Tr) (d : Int) : Bool := decide (d ≤ 6) && (decide (t.n = 0) && (if t.k = 1 ∨ t.k = 2 then emptyB t.s && decide (t.l.length = 0) else if t.k = 3 then tyNm t.s && decide (t.l.length = 0) else if t.k = 4 then emptyB t.s && decide (t.l.length = 2) else false))
/-- A type is right, but for how many parts it has. -/
def tyB : Nat → Tr → Int → Bool
  | 0, _, _ => false
  | h + 1, t, d => tyHere t d && allZ (tyB h) t.l (d + 1)
def tyN : Nat → Tr → Nat
  | 0, _ => 0
  | h + 1, t => 1 + sumZ (tyN h) t.l
/-- What the model measures of a type. -/
def wrZ : Nat → Tr → Int → Int
  | 0, _, _ => 100
  | h + 1, t, d => cond (tyHere t d) (1 + (t.l.map fun x => wrZ h x (d + 1)).sum) 100

def ownL : List ByteArray := [⟨#[73, 110, 116]⟩, ⟨#[66, 111, 111, 108]⟩, ⟨#[84, 114, 117, 101]⟩, ⟨#[70, 97, 108, 115, 101]⟩]
theorem own_lists : ownL.map ByteArray.toList = [[73, 110, 116], [66, 111, 111, 108], [84, 114, 117, 101], [70, 97, 108, 115, 101]] := by kernel_rfl
theorem own_given (s : ByteArray) : (ownL.any fun t => t.toList == s.toList) = (givenT s || givenC s) := by
  have h : (ownL.any fun t => t.toList == s.toList) = ((ownL.map ByteArray.toList).any fun t => t == s.toList) := by rw [List.any_map]; rfl
  rw [h, own_lists]
  simp only [List.any_cons, List.any_nil, Bool.or_false, givenT, givenC]
  rw [beq_turn [73, 110, 116], beq_turn [66, 111, 111, 108], beq_turn [84, 114, 117, 101], beq_turn [70, 97, 108, 115, 101]]
  cases (s.toList == [73, 110, 116]) <;> cases (s.toList == [66, 111, 111, 108]) <;> rfl

set_option maxHeartbeats 400000 in
theorem l3Own_any (s : ByteArray) (w : World) : Calls Tryz.prog 48 #[.string s] w fun e w' => e = .returned (.bool (givenT s || givenC s)) ∧ Below w.heap.size w w' := by
  go_enter Tryz.func48, Tryz.ntmps48
  go_wp2_with fail
  refine (has_any ownL _ 4 rfl (by decide) s _ ?_).mono ?_
  · intro i hi
    match i, hi with
    | 0, _ | 1, _ | 2, _ | 3, _ => simp [ownL]
  rintro e w1 ⟨rfl, rfl⟩
  rw [own_given]
  go_wp2
  go_ret
  exact ⟨rfl, (Below.refl _ w).alloc (Nat.le_refl _) _⟩

/-- How many parts, if it is right; else 100 or more. -/
def TyM (ok : Bool) (n m : Nat) (r : Int) : Prop := 0 ≤ r ∧ r + 1 ≤ ((101 * 2 ^ m : Nat) : Int) ∧ (ok = true → r = n) ∧ (ok = false → 100 ≤ r)
theorem TyM.bad {ok : Bool} {n m : Nat} (h : ok = false) : TyM ok n m 100 := by
  have := Nat.one_le_two_pow (n := m)
  exact ⟨by omega, by omega, (fun e => by rw [h] at e; cases e), fun _ => by omega⟩
theorem TyM.one {ok : Bool} {n m : Nat} (h : ok = true) (hn : n = 1) : TyM ok n m 1 := by
  have := Nat.one_le_two_pow (n := m)
  exact ⟨by omega, by omega, fun _ => by omega, (fun e => by rw [h] at e; cases e)⟩
theorem TyM.two {a b : Bool} {na nb m : Nat} {ra rb : Int} (ha : TyM a na m ra) (hb : TyM b nb m rb) : TyM (a && b) (1 + (na + nb)) (m + 1) (1 + (ra + rb)) := by
  obtain ⟨a1, a2, a3, a4⟩ := ha
  obtain ⟨b1, b2, b3, b4⟩ := hb
  have hp : 2 ^ (m + 1) = 2 ^ m * 2 := Nat.pow_succ 2 m
  refine ⟨by omega, by rw [hp]; omega, fun h => ?_, fun h => ?_⟩
  · rw [Bool.and_eq_true] at h
    have := a3 h.1
    have := b3 h.2
    omega
  · rw [Bool.and_eq_false_iff] at h
    rcases h with h | h
    · have := a4 h
      omega
    · have := b4 h
      omega
theorem tyh_deep {t : Tr} {d : Int} (hd : 6 < d) : tyHere t d = false := by
  unfold tyHere
  rw [decide_eq_false (by omega)]
  rfl
theorem tyh_n {t : Tr} {d : Int} (hn : t.n ≠ 0) : tyHere t d = false := by
  unfold tyHere
  rw [decide_eq_false hn, Bool.false_and, Bool.and_false]
theorem tyh_12 {t : Tr} {d : Int} (hd : d ≤ 6) (hn : t.n = 0) (hk : t.k = 1 ∨ t.k = 2) : tyHere t d = (emptyB t.s && decide (t.l.length = 0)) := by
  unfold tyHere
  rw [decide_eq_true hd, decide_eq_true hn, if_pos hk]
  rfl
theorem tyh_3 {t : Tr} {d : Int} (hd : d ≤ 6) (hn : t.n = 0) (hk : t.k = 3) : tyHere t d = (tyNm t.s && decide (t.l.length = 0)) := by
  unfold tyHere
  rw [decide_eq_true hd, decide_eq_true hn, if_neg (by omega), if_pos hk]
  rfl
theorem tyh_4 {t : Tr} {d : Int} (hd : d ≤ 6) (hn : t.n = 0) (hk : t.k = 4) : tyHere t d = (emptyB t.s && decide (t.l.length = 2)) := by
  unfold tyHere
  rw [decide_eq_true hd, decide_eq_true hn, if_neg (by omega), if_neg (by omega), if_pos hk]
  rfl
theorem tyh_no {t : Tr} {d : Int} (hk : ¬ (t.k = 1 ∨ t.k = 2 ∨ t.k = 3 ∨ t.k = 4)) : tyHere t d = false := by
  unfold tyHere
  rw [if_neg (by omega), if_neg (by omega), if_neg (by omega), Bool.and_false, Bool.and_false]
theorem tyh_len {t : Tr} {d : Int} (h : tyHere t d = true) : d ≤ 6 ∧ (t.l = [] ∨ ∃ a b, t.l = [a, b]) := by
  unfold tyHere at h
  rw [Bool.and_eq_true, Bool.and_eq_true] at h
  refine ⟨of_decide_eq_true h.1, ?_⟩
  have h2 := h.2.2
  split at h2
  · rw [Bool.and_eq_true] at h2
    exact Or.inl (List.length_eq_zero_iff.1 (of_decide_eq_true h2.2))
  · split at h2
    · rw [Bool.and_eq_true] at h2
      exact Or.inl (List.length_eq_zero_iff.1 (of_decide_eq_true h2.2))
    · split at h2
      · rw [Bool.and_eq_true] at h2
        have h3 := of_decide_eq_true h2.2
        match h9 : t.l, h3 with
        | [a, b], _ => exact Or.inr ⟨a, b, rfl⟩
      · cases h2
theorem wr_tym (h : Nat) : ∀ (t : Tr) (d : Int) (m : Nat), d + m = 7 → TyM (tyB h t d) (tyN h t) m (wrZ h t d) := by
  induction h with
  | zero => exact fun t d m _ => TyM.bad rfl
  | succ h ih =>
    intro t d m hm
    show TyM (tyHere t d && allZ (tyB h) t.l (d + 1)) (1 + sumZ (tyN h) t.l) m (cond (tyHere t d) (1 + (t.l.map fun x => wrZ h x (d + 1)).sum) 100)
    cases hh : tyHere t d with
    | false => exact TyM.bad rfl
    | true =>
      obtain ⟨hd, hl⟩ := tyh_len hh
      rcases hl with hl | ⟨a, b, hl⟩
      · rw [hl]
        exact TyM.one rfl rfl
      · rw [hl]
        have key := (ih a (d + 1) (m - 1) (by omega)).two (ih b (d + 1) (m - 1) (by omega))
        rw [show m - 1 + 1 = m by omega] at key
        have e1 : allZ (tyB h) [a, b] (d + 1) = (tyB h a (d + 1) && tyB h b (d + 1)) := by simp [allZ]
        have e2 : sumZ (tyN h) [a, b] = tyN h a + tyN h b := by simp [sumZ]
        have e3 : ([a, b].map fun x => wrZ h x (d + 1)).sum = wrZ h a (d + 1) + wrZ h b (d + 1) := by simp
        rw [e1, e2, e3]
        exact key
theorem wr_lt (h : Nat) (t : Tr) (d : Int) (h0 : 0 ≤ d) (h7 : d ≤ 7) : 0 ≤ wrZ h t d ∧ wrZ h t d ≤ 13000 := by
  have k := wr_tym h t d (7 - d).toNat (by omega)
  have h1 : 2 ^ (7 - d).toNat ≤ 2 ^ 7 := Nat.pow_le_pow_right (by omega) (by omega)
  have h2 := k.2.1
  have h3 : (2 : Nat) ^ 7 = 128 := rfl
  exact ⟨k.1, by omega⟩
/-- The measure held against 10. -/
theorem wr_ten (h : Nat) (t : Tr) (d : Int) (h7 : d ≤ 7) : decide (wrZ h t d ≤ 10) = (tyB h t d && decide (tyN h t ≤ 10)) := by
  have k := wr_tym h t d (7 - d).toNat (by omega)
  cases hb : tyB h t d with
  | true =>
    have := k.2.2.1 hb
    by_cases hn : tyN h t ≤ 10
    · rw [decide_eq_true hn, decide_eq_true (by omega)]; rfl
    · rw [decide_eq_false hn, decide_eq_false (by omega)]; rfl
  | false =>
    have := k.2.2.2 hb
    rw [decide_eq_false (by omega)]
    rfl
theorem wr_bad {h : Nat} {t : Tr} {d : Int} (hh : tyHere t d = false) : wrZ (h + 1) t d = 100 := by
  show cond (tyHere t d) _ _ = _
  rw [hh]
  rfl
theorem wr_leaf {h : Nat} {t : Tr} {d : Int} (hh : tyHere t d = true) (hl : t.l.length = 0) : wrZ (h + 1) t d = 1 := by
  show cond (tyHere t d) (1 + (t.l.map _).sum) _ = _
  rw [hh, List.length_eq_zero_iff.1 hl]
  rfl
theorem wr_fun {h : Nat} {t a b : Tr} {d : Int} (hh : tyHere t d = true) (hl : t.l = [a, b]) : wrZ (h + 1) t d = 1 + wrZ h a (d + 1) + wrZ h b (d + 1) := by
  show cond (tyHere t d) (1 + (t.l.map _).sum) _ = _
  rw [hh, hl]
  simp [Int.add_assoc]
theorem ret_int {a b : Int} (h : a = b) : Ending.returned (.int .i64 a) = .returned (.int .i64 b) := by rw [h]

def CoTy (h : Nat) : Prop := ∀ (K : Nat → Prop) (x : Tr) (cs : List Value) (w : World) (d : Int), 0 ≤ d → d ≤ 7 → tyR K w h x cs → Calls Tryz.prog 50 #[.agg cs.toArray, .int .i64 d] w fun e w' => e = .returned (.int .i64 (wrZ h x d)) ∧ Below w.heap.size w w'

end Go.Proofs.YteoghpefilghdakGreatDoor

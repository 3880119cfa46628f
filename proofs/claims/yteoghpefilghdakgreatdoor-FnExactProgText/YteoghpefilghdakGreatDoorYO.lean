/- Plain: what each kind of expression asks. -/
import Derived.Test.YteoghpefilghdakGreatDoorYG
import Derived.Test.YteoghpefilghdakGreatDoorYJ
namespace Go.Proofs.YteoghpefilghdakGreatDoor

theorem empty_turn (s : ByteArray) : ((⟨#[]⟩ : ByteArray).toList == s.toList) = emptyB s := by
  have e : (⟨#[]⟩ : ByteArray).toList = [] := by kernel_rfl
  rw [e, beq_turn]
  rfl
theorem dec_turn {α : Type} [DecidableEq α] (a b : α) : decide (a = b) = decide (b = a) := by
  by_cases h : a = b
  · rw [decide_eq_true h, decide_eq_true h.symm]
  · rw [decide_eq_false h, decide_eq_false fun e => h e.symm]
theorem dec_cast (a b : Nat) : decide ((a : Int) = b) = decide (a = b) := by
  by_cases h : a = b
  · subst h; simp
  · rw [decide_eq_false h, decide_eq_false (by omega)]
theorem here_1 {x : Tr} (hk : x.k = 1) : hereB x = (outl x.s x.s 0 x.n 0 x.l.length 0 x.ds.length 0 x.al.length && nmB x.s) := by
  unfold hereB shapeE kindB partsN outl
  rw [hk]
  simp only [BEq.rfl, Bool.true_and, Int.reduceEq, or_false, ↓reduceIte, decide_false, Bool.false_or]
  rw [dec_turn (0 : Nat) x.l.length, dec_turn (0 : Nat) x.ds.length, dec_turn (0 : Nat) x.al.length, dec_turn (0 : Int) x.n]
  have e1 : decide ((0 : Int) = x.l.length) = decide (x.l.length = 0) := (dec_turn _ _).trans (dec_cast _ 0)
  rw [e1]
  cases decide (x.l.length = 0) <;> cases decide (x.ds.length = 0) <;> cases decide (x.al.length = 0) <;> cases decide (x.n = 0) <;> simp
theorem here_2 {x : Tr} (hk : x.k = 2) : hereB x = (outl x.s x.s 0 x.n 0 x.l.length 0 x.ds.length 0 x.al.length && grB x.s) := by
  unfold hereB shapeE kindB partsN outl
  rw [hk]
  simp only [BEq.rfl, Bool.true_and, Int.reduceEq, or_false, or_true, ↓reduceIte, decide_false, Bool.false_or]
  rw [dec_turn (0 : Nat) x.l.length, dec_turn (0 : Nat) x.ds.length, dec_turn (0 : Nat) x.al.length, dec_turn (0 : Int) x.n]
  have e1 : decide ((0 : Int) = x.l.length) = decide (x.l.length = 0) := (dec_turn _ _).trans (dec_cast _ 0)
  rw [e1]
  cases decide (x.l.length = 0) <;> cases decide (x.ds.length = 0) <;> cases decide (x.al.length = 0) <;> cases decide (x.n = 0) <;> simp
theorem here_3 {x : Tr} (hk : x.k = 3) : hereB x = (outl ⟨#[]⟩ x.s x.n x.n 0 x.l.length 0 x.ds.length 0 x.al.length && inB x.n 0 999999) := by
  unfold hereB shapeE kindB partsN outl
  rw [hk]
  simp only [empty_turn, Bool.true_and, Int.reduceEq, or_true, ↓reduceIte, decide_true, decide_false, Bool.false_or, Bool.true_or]
  rw [dec_turn (0 : Nat) x.l.length, dec_turn (0 : Nat) x.ds.length, dec_turn (0 : Nat) x.al.length]
  have e1 : decide ((0 : Int) = x.l.length) = decide (x.l.length = 0) := (dec_turn _ _).trans (dec_cast _ 0)
  rw [e1]
  cases decide (x.l.length = 0) <;> cases decide (x.ds.length = 0) <;> cases decide (x.al.length = 0) <;> cases emptyB x.s <;> simp
theorem here_4 {x : Tr} (hk : x.k = 4) (hl : x.l.length = 2) : hereB x = (outl ⟨#[]⟩ x.s 0 x.n 2 2 0 x.ds.length 0 x.al.length && true) := by
  unfold hereB shapeE kindB partsN outl
  rw [hk]
  simp only [empty_turn, Bool.true_and, Int.reduceEq, or_false, ↓reduceIte, decide_true, decide_false, Bool.false_or, hl]
  rw [dec_turn (0 : Nat) x.ds.length, dec_turn (0 : Nat) x.al.length, dec_turn (0 : Int) x.n]
  cases decide (x.ds.length = 0) <;> cases decide (x.al.length = 0) <;> cases decide (x.n = 0) <;> cases emptyB x.s <;> simp
theorem here_5 {x : Tr} (hk : x.k = 5) (hl : x.l.length = 1) : hereB x = (outl x.s x.s 0 x.n 1 1 0 x.ds.length 0 x.al.length && (nmB x.s || isU x.s)) := by
  unfold hereB shapeE kindB partsN outl
  rw [hk]
  simp only [BEq.rfl, Bool.true_and, Int.reduceEq, or_false, ↓reduceIte, decide_true, decide_false, Bool.false_or, hl]
  rw [dec_turn (0 : Nat) x.ds.length, dec_turn (0 : Nat) x.al.length, dec_turn (0 : Int) x.n]
  cases decide (x.ds.length = 0) <;> cases decide (x.al.length = 0) <;> cases decide (x.n = 0) <;> simp
theorem here_6 {x : Tr} (hk : x.k = 6) (hl : x.l.length = 1) : hereB x = (outl ⟨#[]⟩ x.s 0 x.n 1 1 x.ds.length x.ds.length 0 x.al.length && true) := by
  unfold hereB shapeE kindB partsN outl
  rw [hk]
  simp only [empty_turn, Bool.true_and, Int.reduceEq, or_false, or_true, ↓reduceIte, decide_true, decide_false, Bool.false_or, Bool.true_or, hl]
  rw [dec_turn (0 : Nat) x.al.length, dec_turn (0 : Int) x.n]
  cases decide (x.al.length = 0) <;> cases decide (x.n = 0) <;> cases emptyB x.s <;> simp
theorem here_7 {x : Tr} (hk : x.k = 7) (hl : x.l.length = 1) : hereB x = (outl ⟨#[]⟩ x.s 0 x.n 1 1 0 x.ds.length x.al.length x.al.length && inB x.al.length 1 6) := by
  unfold hereB shapeE kindB partsN outl
  rw [hk]
  simp only [empty_turn, Bool.true_and, Int.reduceEq, or_false, or_true, ↓reduceIte, decide_true, decide_false, Bool.false_or, Bool.true_or, hl]
  rw [dec_turn (0 : Nat) x.ds.length, dec_turn (0 : Int) x.n]
  cases decide (x.ds.length = 0) <;> cases decide (x.n = 0) <;> cases emptyB x.s <;> simp
theorem here_8 {x : Tr} (hk : x.k = 8) (hl : x.l.length = 3) : hereB x = (outl ⟨#[]⟩ x.s 0 x.n 3 3 0 x.ds.length 0 x.al.length && true) := by
  unfold hereB shapeE kindB partsN outl
  rw [hk]
  simp only [empty_turn, Bool.true_and, Int.reduceEq, or_false, ↓reduceIte, decide_true, decide_false, Bool.false_or, hl]
  rw [dec_turn (0 : Nat) x.ds.length, dec_turn (0 : Nat) x.al.length, dec_turn (0 : Int) x.n]
  cases decide (x.ds.length = 0) <;> cases decide (x.al.length = 0) <;> cases decide (x.n = 0) <;> cases emptyB x.s <;> simp
theorem here_9 {x : Tr} (hk : x.k = 9) (hl : x.l.length = 2) : hereB x = (outl x.s x.s 0 x.n 2 2 0 x.ds.length 0 x.al.length && opB x.s) := by
  unfold hereB shapeE kindB partsN outl
  rw [hk]
  simp only [BEq.rfl, Bool.true_and, Int.reduceEq, or_false, or_true, ↓reduceIte, decide_true, decide_false, Bool.false_or, hl]
  rw [dec_turn (0 : Nat) x.ds.length, dec_turn (0 : Nat) x.al.length, dec_turn (0 : Int) x.n]
  cases decide (x.ds.length = 0) <;> cases decide (x.al.length = 0) <;> cases decide (x.n = 0) <;> simp
theorem here_none {x : Tr} (hk : ¬ (1 ≤ x.k ∧ x.k ≤ 9)) : hereB x = false := by
  have : partsN x.k = -1 := by
    unfold partsN
    rw [if_neg (by omega), if_neg (by omega), if_neg (by omega), if_neg (by omega)]
  unfold hereB shapeE
  rw [this, decide_eq_false (by omega)]
  rfl
theorem here_len {x : Tr} {n : Nat} (h : partsN x.k = n) (hl : x.l.length ≠ n) : hereB x = false := by
  unfold hereB shapeE
  rw [h, decide_eq_false (by omega)]
  rfl
end Go.Proofs.YteoghpefilghdakGreatDoor

/- What is written of whatever type, plainly: the model's way, and the program's. -/
import Derived.Test.YteoghpefilghdakGreatDoorGE
import Derived.Test.YteoghpefilghdakGreatDoorPB
namespace Go.Proofs.YteoghpefilghdakGreatDoor
namespace Tx
open Go.ChangeShapes Go.WideShapes Go.ChangeAt Go.RowKit

/-- The model's text, and whether there is one. -/
def tm : Nat → Tr → Int → List UInt8 × Bool
  | 0, _, _ => ([], false)
  | h + 1, t, d => if 12 < d then ([], false) else if t.k = 1 then ([73, 110, 116], true) else if t.k = 2 then ([66, 111, 111, 108], true) else if t.k = 3 then (bl t.s, true)
      else if t.k = 5 ∧ 0 ≤ t.n then (116 :: Lib.decDigits t.n.toNat, true)
      else if t.k = 4 ∧ t.l.length = 2 then (brL (decide ((partT t 0).k = 4)) (tm h (partT t 0) (d + 1)).1 ++ ([32, 45, 62, 32] ++ (tm h (partT t 1) (d + 1)).1), (tm h (partT t 0) (d + 1)).2 && (tm h (partT t 1) (d + 1)).2)
      else ([], false)
/-- What the program writes, and what it answers. -/
def tw : Nat → Tr → Int → List UInt8 × Bool
  | 0, _, _ => ([], false)
  | h + 1, t, d => if 12 < d then ([], false) else if t.k = 1 then ([73, 110, 116], true) else if t.k = 2 then ([66, 111, 111, 108], true) else if t.k = 3 then (bl t.s, true)
      else if t.k = 5 ∧ 0 ≤ t.n then (116 :: Lib.decDigits t.n.toNat, true)
      else if t.k = 4 ∧ t.l.length = 2 then (if (tw h (partT t 0) (d + 1)).2 = true then (brL (decide ((partT t 0).k = 4)) (tw h (partT t 0) (d + 1)).1 ++ ([32, 45, 62, 32] ++ (tw h (partT t 1) (d + 1)).1), (tw h (partT t 1) (d + 1)).2) else (brL (decide ((partT t 0).k = 4)) (tw h (partT t 0) (d + 1)).1, false))
      else ([], false)
def tpw (h : Nat) (t : Tr) (d : Int) : List UInt8 × Bool := (brL (decide (t.k = 4)) (tw h t d).1, (tw h t d).2)
/-- The kinds of a type at a depth. -/
def Kd (t : Tr) (d : Int) : Prop := 12 < d ∨ (¬ 12 < d ∧ t.k = 1) ∨ (¬ 12 < d ∧ t.k = 2) ∨ (¬ 12 < d ∧ t.k = 3) ∨ (¬ 12 < d ∧ t.k = 5 ∧ 0 ≤ t.n) ∨ (¬ 12 < d ∧ t.k = 5 ∧ t.n < 0) ∨ (¬ 12 < d ∧ t.k = 4 ∧ t.l.length ≠ 2) ∨ (¬ 12 < d ∧ (t.k ≠ 1 ∧ t.k ≠ 2 ∧ t.k ≠ 3 ∧ t.k ≠ 4 ∧ t.k ≠ 5)) ∨ (¬ 12 < d ∧ t.k = 4 ∧ ∃ a b, t.l = [a, b])
theorem kinds (t : Tr) (d : Int) : Kd t d := by
  by_cases h : 12 < d
  · exact .inl h
  by_cases k1 : t.k = 1
  · exact .inr (.inl ⟨h, k1⟩)
  by_cases k2 : t.k = 2
  · exact .inr (.inr (.inl ⟨h, k2⟩))
  by_cases k3 : t.k = 3
  · exact .inr (.inr (.inr (.inl ⟨h, k3⟩)))
  by_cases k4 : t.k = 4
  · by_cases hl : t.l.length = 2
    · obtain ⟨a, b, e⟩ : ∃ a b, t.l = [a, b] := by
        match hm : t.l, hl with
        | [a, b], _ => exact ⟨a, b, rfl⟩
      exact .inr (.inr (.inr (.inr (.inr (.inr (.inr (.inr (⟨h, k4, a, b, e⟩))))))))
    · exact .inr (.inr (.inr (.inr (.inr (.inr (.inl ⟨h, k4, hl⟩))))))
  by_cases k5 : t.k = 5
  · by_cases hn : 0 ≤ t.n
    · exact .inr (.inr (.inr (.inr (.inl ⟨h, k5, hn⟩))))
    · exact .inr (.inr (.inr (.inr (.inr (.inl ⟨h, k5, by omega⟩)))))
  exact .inr (.inr (.inr (.inr (.inr (.inr (.inr (.inl ⟨h, k1, k2, k3, k4, k5⟩)))))))
theorem tm_deep {h : Nat} {t : Tr} {d : Int} (hd : 12 < d) : tm (h + 1) t d = ([], false) := if_pos hd
theorem tw_deep {h : Nat} {t : Tr} {d : Int} (hd : 12 < d) : tw (h + 1) t d = ([], false) := if_pos hd
theorem tm_1 {h : Nat} {t : Tr} {d : Int} (hd : ¬ 12 < d) (k : t.k = 1) : tm (h + 1) t d = ([73, 110, 116], true) := (if_neg hd).trans (if_pos k)
theorem tw_1 {h : Nat} {t : Tr} {d : Int} (hd : ¬ 12 < d) (k : t.k = 1) : tw (h + 1) t d = ([73, 110, 116], true) := (if_neg hd).trans (if_pos k)
theorem tm_2 {h : Nat} {t : Tr} {d : Int} (hd : ¬ 12 < d) (k : t.k = 2) : tm (h + 1) t d = ([66, 111, 111, 108], true) := (if_neg hd).trans ((if_neg (by omega)).trans (if_pos k))
theorem tw_2 {h : Nat} {t : Tr} {d : Int} (hd : ¬ 12 < d) (k : t.k = 2) : tw (h + 1) t d = ([66, 111, 111, 108], true) := (if_neg hd).trans ((if_neg (by omega)).trans (if_pos k))
theorem tm_3 {h : Nat} {t : Tr} {d : Int} (hd : ¬ 12 < d) (k : t.k = 3) : tm (h + 1) t d = (bl t.s, true) := (if_neg hd).trans ((if_neg (by omega)).trans ((if_neg (by omega)).trans (if_pos k)))
theorem tw_3 {h : Nat} {t : Tr} {d : Int} (hd : ¬ 12 < d) (k : t.k = 3) : tw (h + 1) t d = (bl t.s, true) := (if_neg hd).trans ((if_neg (by omega)).trans ((if_neg (by omega)).trans (if_pos k)))
theorem tm_5 {h : Nat} {t : Tr} {d : Int} (hd : ¬ 12 < d) (k : t.k = 5) (hn : 0 ≤ t.n) : tm (h + 1) t d = (116 :: Lib.decDigits t.n.toNat, true) := (if_neg hd).trans ((if_neg (by omega)).trans ((if_neg (by omega)).trans ((if_neg (by omega)).trans (if_pos ⟨k, hn⟩))))
theorem tw_5 {h : Nat} {t : Tr} {d : Int} (hd : ¬ 12 < d) (k : t.k = 5) (hn : 0 ≤ t.n) : tw (h + 1) t d = (116 :: Lib.decDigits t.n.toNat, true) := (if_neg hd).trans ((if_neg (by omega)).trans ((if_neg (by omega)).trans ((if_neg (by omega)).trans (if_pos ⟨k, hn⟩))))
theorem tm_4 {h : Nat} {t a b : Tr} {d : Int} (hd : ¬ 12 < d) (k : t.k = 4) (hl : t.l = [a, b]) : tm (h + 1) t d = (brL (decide (a.k = 4)) (tm h a (d + 1)).1 ++ ([32, 45, 62, 32] ++ (tm h b (d + 1)).1), (tm h a (d + 1)).2 && (tm h b (d + 1)).2) := by
  refine (if_neg hd).trans ((if_neg (by omega)).trans ((if_neg (by omega)).trans ((if_neg (by omega)).trans ((if_neg (by omega)).trans ((if_pos ⟨k, by rw [hl]; rfl⟩).trans ?_)))))
  rw [part0 hl, part1 hl]
theorem tw_4 {h : Nat} {t a b : Tr} {d : Int} (hd : ¬ 12 < d) (k : t.k = 4) (hl : t.l = [a, b]) : tw (h + 1) t d = if (tw h a (d + 1)).2 = true then ((tpw h a (d + 1)).1 ++ ([32, 45, 62, 32] ++ (tw h b (d + 1)).1), (tw h b (d + 1)).2) else ((tpw h a (d + 1)).1, false) := by
  refine (if_neg hd).trans ((if_neg (by omega)).trans ((if_neg (by omega)).trans ((if_neg (by omega)).trans ((if_neg (by omega)).trans ((if_pos ⟨k, by rw [hl]; rfl⟩).trans ?_)))))
  rw [part0 hl, part1 hl]
  rfl
theorem tm_none {h : Nat} {t : Tr} {d : Int} (hd : ¬ 12 < d) (k1 : t.k ≠ 1) (k2 : t.k ≠ 2) (k3 : t.k ≠ 3) (k5 : ¬ (t.k = 5 ∧ 0 ≤ t.n)) (k4 : ¬ (t.k = 4 ∧ t.l.length = 2)) : tm (h + 1) t d = ([], false) := (if_neg hd).trans ((if_neg k1).trans ((if_neg k2).trans ((if_neg k3).trans ((if_neg k5).trans (if_neg k4)))))
theorem tw_none {h : Nat} {t : Tr} {d : Int} (hd : ¬ 12 < d) (k1 : t.k ≠ 1) (k2 : t.k ≠ 2) (k3 : t.k ≠ 3) (k5 : ¬ (t.k = 5 ∧ 0 ≤ t.n)) (k4 : ¬ (t.k = 4 ∧ t.l.length = 2)) : tw (h + 1) t d = ([], false) := (if_neg hd).trans ((if_neg k1).trans ((if_neg k2).trans ((if_neg k3).trans ((if_neg k5).trans (if_neg k4)))))
/-- Both answer alike, and write alike where there is a text. -/
theorem tm_tw (h : Nat) : ∀ t d, (tm h t d).2 = (tw h t d).2 ∧ ((tm h t d).2 = true → (tm h t d).1 = (tw h t d).1) := by
  induction h with
  | zero => exact fun _ _ => ⟨rfl, fun _ => rfl⟩
  | succ h ih =>
    intro t d
    rcases kinds t d with hd | ⟨hd, k⟩ | ⟨hd, k⟩ | ⟨hd, k⟩ | ⟨hd, k, n⟩ | ⟨hd, k, n⟩ | ⟨hd, k, l⟩ | ⟨hd, k⟩ | ⟨hd, k, a, b, l⟩
    · rw [tm_deep hd, tw_deep hd]; exact ⟨rfl, fun _ => rfl⟩
    · rw [tm_1 hd k, tw_1 hd k]; exact ⟨rfl, fun _ => rfl⟩
    · rw [tm_2 hd k, tw_2 hd k]; exact ⟨rfl, fun _ => rfl⟩
    · rw [tm_3 hd k, tw_3 hd k]; exact ⟨rfl, fun _ => rfl⟩
    · rw [tm_5 hd k n, tw_5 hd k n]; exact ⟨rfl, fun _ => rfl⟩
    · rw [tm_none hd (by omega) (by omega) (by omega) (by omega) (by omega), tw_none hd (by omega) (by omega) (by omega) (by omega) (by omega)]; exact ⟨rfl, fun _ => rfl⟩
    · rw [tm_none hd (by omega) (by omega) (by omega) (by omega) (fun x => l x.2), tw_none hd (by omega) (by omega) (by omega) (by omega) (fun x => l x.2)]; exact ⟨rfl, fun _ => rfl⟩
    · rw [tm_none hd k.1 k.2.1 k.2.2.1 (fun x => k.2.2.2.2 x.1) (fun x => k.2.2.2.1 x.1), tw_none hd k.1 k.2.1 k.2.2.1 (fun x => k.2.2.2.2 x.1) (fun x => k.2.2.2.1 x.1)]; exact ⟨rfl, fun _ => rfl⟩
    · skip
      obtain ⟨a1, a2⟩ := ih a (d + 1)
      obtain ⟨b1, b2⟩ := ih b (d + 1)
      rw [tm_4 hd k l, tw_4 hd k l]
      unfold tpw
      rw [← a1, ← b1]
      cases ha : (tm h a (d + 1)).2 with
      | false => exact ⟨rfl, fun x => by cases x⟩
      | true =>
        rw [if_pos rfl]
        refine ⟨rfl, fun x => ?_⟩
        have hb : (tm h b (d + 1)).2 = true := x
        show brL _ (tm h a (d + 1)).1 ++ _ = brL _ (tw h a (d + 1)).1 ++ _
        rw [a2 ha, b2 hb]
theorem dec_key : ∀ k m, m < 10 ^ (k + 1) → Lib.nDigits m ≤ k + 1 := by
  intro k
  induction k with
  | zero => intro m hm; rw [Lib.nDigits_small (by simpa using hm)]; omega
  | succ k ih =>
    intro m hm
    by_cases h10 : m < 10
    · rw [Lib.nDigits_small h10]; omega
    · rw [Lib.nDigits_big h10]
      have := ih (m / 10) (by rw [Nat.pow_succ] at hm; omega)
      omega
theorem dec_len19 {n : Nat} (h : n ≤ 9223372036854775807) : (Lib.decDigits n).length ≤ 19 := by
  have e : (Lib.decDigits n).length = Lib.nDigits n := by rw [Lib.decDigits_eq]; simp
  rw [e]
  exact dec_key 18 n (by omega)
/-- No number of it is past what 64 bits hold. -/
def rg : Nat → Tr → Prop
  | 0, _ => True
  | h + 1, t => t.n ≤ 9223372036854775807 ∧ ∀ x, x ∈ t.l → rg h x
theorem rg_4 {h : Nat} {t a b : Tr} (hr : rg (h + 1) t) (hl : t.l = [a, b]) : rg h a ∧ rg h b := ⟨hr.2 a (by rw [hl]; simp), hr.2 b (by rw [hl]; simp)⟩
theorem wty_4 {h : Nat} {t a b : Tr} (hl : t.l = [a, b]) : wty (h + 1) t = t.s.size + (2 + (wty h a + wty h b)) := by
  show t.s.size + lw (wty h) t.l = _
  rw [hl]
  simp [lw]
theorem tm_len (h : Nat) : ∀ t d, rg h t → (tm h t d).1.length ≤ 24 + 24 * wty h t := by
  induction h with
  | zero => intro t d hr; exact Nat.zero_le _
  | succ h ih =>
    intro t d hr
    have hs : t.s.size ≤ wty (h + 1) t := Nat.le_add_right _ _
    rcases kinds t d with hd | ⟨hd, k⟩ | ⟨hd, k⟩ | ⟨hd, k⟩ | ⟨hd, k, n⟩ | ⟨hd, k, n⟩ | ⟨hd, k, l⟩ | ⟨hd, k⟩ | ⟨hd, k, a, b, l⟩
    · rw [tm_deep hd]; exact Nat.zero_le _
    · rw [tm_1 hd k]; show 3 ≤ _; omega
    · rw [tm_2 hd k]; show 4 ≤ _; omega
    · rw [tm_3 hd k]; show (bl t.s).length ≤ _; rw [bl_len]; omega
    · skip
      rw [tm_5 hd k n]
      have := dec_len19 (n := t.n.toNat) (by have := hr.1; omega)
      show (116 :: Lib.decDigits t.n.toNat).length ≤ _
      rw [List.length_cons]
      omega
    · rw [tm_none hd (by omega) (by omega) (by omega) (by omega) (by omega)]; exact Nat.zero_le _
    · rw [tm_none hd (by omega) (by omega) (by omega) (by omega) (fun x => l x.2)]; exact Nat.zero_le _
    · rw [tm_none hd k.1 k.2.1 k.2.2.1 (fun x => k.2.2.2.2 x.1) (fun x => k.2.2.2.1 x.1)]; exact Nat.zero_le _
    · skip
      obtain ⟨ra, rb⟩ := rg_4 hr l
      have h1 := ih a (d + 1) ra
      have h2 := ih b (d + 1) rb
      have h3 := (brL_len (decide (a.k = 4)) (tm h a (d + 1)).1).1
      rw [tm_4 hd k l, wty_4 l]
      simp only [List.length_append, List.length_cons, List.length_nil]
      omega
theorem tw_len (h : Nat) : ∀ t d, rg h t → (tw h t d).1.length ≤ 24 + 24 * wty h t := by
  induction h with
  | zero => intro t d hr; exact Nat.zero_le _
  | succ h ih =>
    intro t d hr
    have hs : t.s.size ≤ wty (h + 1) t := Nat.le_add_right _ _
    rcases kinds t d with hd | ⟨hd, k⟩ | ⟨hd, k⟩ | ⟨hd, k⟩ | ⟨hd, k, n⟩ | ⟨hd, k, n⟩ | ⟨hd, k, l⟩ | ⟨hd, k⟩ | ⟨hd, k, a, b, l⟩
    · rw [tw_deep hd]; exact Nat.zero_le _
    · rw [tw_1 hd k]; show 3 ≤ _; omega
    · rw [tw_2 hd k]; show 4 ≤ _; omega
    · rw [tw_3 hd k]; show (bl t.s).length ≤ _; rw [bl_len]; omega
    · skip
      rw [tw_5 hd k n]
      have := dec_len19 (n := t.n.toNat) (by have := hr.1; omega)
      show (116 :: Lib.decDigits t.n.toNat).length ≤ _
      rw [List.length_cons]
      omega
    · rw [tw_none hd (by omega) (by omega) (by omega) (by omega) (by omega)]; exact Nat.zero_le _
    · rw [tw_none hd (by omega) (by omega) (by omega) (by omega) (fun x => l x.2)]; exact Nat.zero_le _
    · rw [tw_none hd k.1 k.2.1 k.2.2.1 (fun x => k.2.2.2.2 x.1) (fun x => k.2.2.2.1 x.1)]; exact Nat.zero_le _
    · skip
      obtain ⟨ra, rb⟩ := rg_4 hr l
      have h1 := ih a (d + 1) ra
      have h2 := ih b (d + 1) rb
      have h3 := (brL_len (decide (a.k = 4)) (tw h a (d + 1)).1).1
      rw [tw_4 hd k l, wty_4 l]
      unfold tpw
      split
      · simp only [List.length_append, List.length_cons, List.length_nil]
        omega
      · show (brL (decide (a.k = 4)) (tw h a (d + 1)).1).length ≤ _
        omega
end Tx
end Go.Proofs.YteoghpefilghdakGreatDoor

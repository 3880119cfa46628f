/- Datas that are right: the two ways of looking at them are one. -/
import Derived.Test.YtgoieaalmlajfaiGreatPL
namespace Go.Proofs.YtgoieaalmlajfaiGreat

theorem gr_notU {s : ByteArray} (h : grB s = true) : isU s = false := by
  cases hu : isU s with
  | false => rfl
  | true =>
    have e : s.data.toList = [95] := by rw [← toList_data]; exact eq_of_beq hu
    unfold grB at h
    rw [e] at h
    revert h
    decide
theorem own_notU {s : ByteArray} (h : ownB s = true) : isU s = false := by
  unfold ownB at h
  rw [Bool.and_eq_true] at h
  exact gr_notU h.1
theorem noDup_noTwo2 (l : List ByteArray) (n : Nat) (h : ∀ i, i < n → isU (atZ l i) = false) : noDupTo l n = noTwoTo l n := by
  induction n with
  | zero => rfl
  | succ n ih =>
    show (noDupTo l n && _) = (noTwoTo l n && _)
    rw [ih fun i hi => h i (by omega), h n (by omega)]
    rfl
theorem noDupTo_iff (l : List ByteArray) (n : Nat) : noDupTo l n = true ↔ ∀ i, i < n → alikeB (l.take i) (atZ l i) = false := by
  induction n with
  | zero => exact ⟨fun _ i hi => by omega, fun _ => rfl⟩
  | succ n ih =>
    show (noDupTo l n && !alikeB (l.take n) (atZ l n)) = true ↔ _
    rw [Bool.and_eq_true, ih]
    constructor
    · rintro ⟨h1, h2⟩ i hi
      by_cases he : i = n
      · subst he
        cases hb : alikeB (l.take i) (atZ l i) with
        | false => rfl
        | true => rw [hb] at h2; cases h2
      · exact h1 i (by omega)
    · intro h
      exact ⟨fun i hi => h i (by omega), by rw [h n (by omega)]; rfl⟩
theorem atZ_get {l : List ByteArray} {i : Nat} (h : i < l.length) : atZ l i = l[i] := by
  unfold atZ
  rw [List.getD_eq_getElem?_getD, List.getElem?_eq_getElem h]
  rfl
theorem noDup_pair (l : List ByteArray) : noDupB l = true ↔ l.Pairwise (fun a b => a.toList ≠ b.toList) := by
  unfold noDupB
  rw [noDupTo_iff, List.pairwise_iff_getElem]
  constructor
  · intro h i j hi hj hij he
    have h1 := h j hj
    unfold alikeB at h1
    rw [atZ_get hj] at h1
    have h2 : ((l.take j).any fun t => t.toList == l[j].toList) = true := by
      rw [List.any_eq_true]
      refine ⟨l[i], ?_, by rw [he]; exact beq_self_eq_true _⟩
      rw [List.mem_iff_getElem?]
      exact ⟨i, by rw [List.getElem?_take, if_pos hij, List.getElem?_eq_getElem hi]⟩
    rw [h1] at h2
    cases h2
  · intro h i hi
    unfold alikeB
    rw [atZ_get hi, List.any_eq_false]
    intro t ht he
    obtain ⟨j, hj⟩ := List.mem_iff_getElem?.1 ht
    have hji : j < i := by
      have := (List.getElem?_eq_some_iff.1 hj).1
      rw [List.length_take] at this
      omega
    rw [List.getElem?_take, if_pos hji] at hj
    obtain ⟨hjl, hjt⟩ := List.getElem?_eq_some_iff.1 hj
    refine h j i hjl hi hji ?_
    rw [hjt]
    exact eq_of_beq he
theorem cntS_cons (t : ByteArray) (r : List ByteArray) (s : ByteArray) : cntS (t :: r) s = cntS r s + cond (t.toList == s.toList) 1 0 := by
  unfold cntS
  rw [List.countP_cons]
  cases (t.toList == s.toList) <;> rfl
theorem cntS_pos {r : List ByteArray} {s b : ByteArray} (hb : b ∈ r) (he : b.toList = s.toList) : 0 < cntS r s := by
  unfold cntS
  rw [List.countP_pos_iff]
  exact ⟨b, hb, by rw [he]; exact beq_self_eq_true _⟩
theorem cntS_zero {r : List ByteArray} {s : ByteArray} (h : ∀ b ∈ r, b.toList ≠ s.toList) : cntS r s = 0 := by
  unfold cntS
  rw [List.countP_eq_zero]
  intro b hb he
  exact h b hb (eq_of_beq he)
theorem pair_cnt (l : List ByteArray) : l.Pairwise (fun a b => a.toList ≠ b.toList) ↔ ∀ s ∈ l, cntS l s = 1 := by
  induction l with
  | nil => exact ⟨(fun _ s hs => by cases hs), fun _ => List.Pairwise.nil⟩
  | cons x r ih =>
    rw [List.pairwise_cons, ih]
    constructor
    · rintro ⟨h1, h2⟩ s hs
      rw [cntS_cons]
      rcases List.mem_cons.1 hs with rfl | hs
      · rw [beq_self_eq_true, cntS_zero (fun b hb => (h1 b hb).symm)]
        rfl
      · have hne : (x.toList == s.toList) = false := by
          rw [beq_eq_false_iff_ne]
          exact h1 s hs
        rw [hne, h2 s hs]
        rfl
    · intro h
      have h1 : ∀ b ∈ r, x.toList ≠ b.toList := by
        intro b hb he
        have h9 := h x (List.mem_cons_self ..)
        rw [cntS_cons, beq_self_eq_true] at h9
        have := cntS_pos hb he.symm
        simp at h9
        omega
      refine ⟨h1, fun s hs => ?_⟩
      have h9 := h s (List.mem_cons_of_mem _ hs)
      have hne : (x.toList == s.toList) = false := by
        rw [beq_eq_false_iff_ne]
        exact h1 s hs
      rw [cntS_cons, hne] at h9
      simpa using h9
theorem datasTo_iff (h : Nat) (l : List Tr) (n : Nat) : datasTo h l n = true ↔ ∀ i d, i < n → l[i]? = some d → dataB h l i d = true := by
  induction n with
  | zero => exact ⟨fun _ i d hi => by omega, fun _ => rfl⟩
  | succ n ih =>
    show (datasTo h l n && (match l[n]? with | some d => dataB h l n d | none => true)) = true ↔ _
    rw [Bool.and_eq_true, ih]
    constructor
    · rintro ⟨h1, h2⟩ i d hi hd
      by_cases he : i = n
      · subst he
        rw [hd] at h2
        exact h2
      · exact h1 i d (by omega) hd
    · intro h9
      refine ⟨fun i d hi hd => h9 i d (by omega) hd, ?_⟩
      cases hd : l[n]? with
      | none => rfl
      | some d => exact h9 n d (by omega) hd
theorem con_parts (h : Nat) (ds : List Tr) (c : Tr) : conB h ds c = (con1 h c && decide (cntS (consL ds) c.s = 1)) := by
  unfold conB con1 argsB
  cases ownB c.s <;> cases decide (c.l.length ≤ 4) <;> cases decide (cntS (consL ds) c.s = 1) <;> cases c.l.all (argB h) <;> rfl
theorem mem_consL {l : List Tr} {s : ByteArray} : s ∈ consL l ↔ ∃ d ∈ l, ∃ c ∈ d.l, c.s = s := by
  unfold consL
  rw [List.mem_flatMap]
  constructor
  · rintro ⟨d, hd, hs⟩
    obtain ⟨c, hc, e⟩ := List.mem_map.1 hs
    exact ⟨d, hd, c, hc, e⟩
  · rintro ⟨d, hd, c, hc, e⟩
    exact ⟨d, hd, List.mem_map.2 ⟨c, hc, e⟩⟩
theorem alike_names {l : List Tr} {i : Nat} {d : Tr} (hd : l[i]? = some d) : alikeB ((l.map Tr.s).take i) (atZ (l.map Tr.s) i) = alikeB ((l.take i).map Tr.s) d.s := by
  have hi : i < (l.map Tr.s).length := by rw [List.length_map]; exact (List.getElem?_eq_some_iff.1 hd).1
  rw [atZ_get hi, List.map_take, List.getElem_map]
  congr 1
  rw [(List.getElem?_eq_some_iff.1 hd).2]
theorem datas_same (h : Nat) (l : List Tr) : datasTo h l l.length = (l.all (data1 h) && (noTwoB (l.map Tr.s) && noTwoB (consL l))) := by
  have names : (∀ d ∈ l, ownB d.s = true) → noTwoB (l.map Tr.s) = noDupB (l.map Tr.s) := by
    intro ho
    symm
    refine noDup_noTwo2 _ _ fun i hi => ?_
    rw [atZ_get hi]
    obtain ⟨d, hd, e⟩ := List.mem_map.1 (List.getElem_mem hi)
    rw [← e]
    exact own_notU (ho d hd)
  have cons : (∀ d ∈ l, ∀ c ∈ d.l, ownB c.s = true) → noTwoB (consL l) = noDupB (consL l) := by
    intro ho
    symm
    refine noDup_noTwo2 _ _ fun i hi => ?_
    rw [atZ_get hi]
    obtain ⟨d, hd, c, hc, e⟩ := mem_consL.1 (List.getElem_mem hi)
    rw [← e]
    exact own_notU (ho d hd c hc)
  rw [Bool.eq_iff_iff, datasTo_iff]
  constructor
  · intro H
    have key : ∀ i d, l[i]? = some d → alikeB ((l.take i).map Tr.s) d.s = false ∧ (∀ c ∈ d.l, con1 h c = true ∧ cntS (consL l) c.s = 1) ∧ ownB d.s = true ∧ inB d.l.length 1 5 = true := by
      intro i d hd
      have h1 := H i d (List.getElem?_eq_some_iff.1 hd).1 hd
      unfold dataB at h1
      rw [Bool.and_eq_true, Bool.and_eq_true, Bool.and_eq_true] at h1
      obtain ⟨a1, a2, a3, a4⟩ := h1
      refine ⟨?_, fun c hc => ?_, a3, a4⟩
      · cases hb : alikeB ((l.take i).map Tr.s) d.s with
        | false => rfl
        | true => rw [hb] at a1; cases a1
      · rw [List.all_eq_true] at a2
        have h2 := a2 c hc
        rw [con_parts, Bool.and_eq_true] at h2
        exact ⟨h2.1, of_decide_eq_true h2.2⟩
    have keym : ∀ d ∈ l, (∀ c ∈ d.l, con1 h c = true ∧ cntS (consL l) c.s = 1) ∧ ownB d.s = true ∧ inB d.l.length 1 5 = true := by
      intro d hd
      obtain ⟨i, hi⟩ := List.mem_iff_getElem?.1 hd
      exact (key i d hi).2
    have ow : ∀ d ∈ l, ∀ c ∈ d.l, ownB c.s = true := by
      intro d hd c hc
      have h2 := ((keym d hd).1 c hc).1
      unfold con1 at h2
      rw [Bool.and_eq_true] at h2
      exact h2.1
    rw [Bool.and_eq_true, Bool.and_eq_true, names fun d hd => (keym d hd).2.1, cons ow]
    refine ⟨?_, ?_, ?_⟩
    · rw [List.all_eq_true]
      intro d hd
      obtain ⟨k1, k2, k3⟩ := keym d hd
      unfold data1 consB
      rw [k2, k3]
      show d.l.all (con1 h) = true
      rw [List.all_eq_true]
      exact fun c hc => (k1 c hc).1
    · unfold noDupB
      rw [noDupTo_iff]
      intro i hi
      have hi2 : i < l.length := by rw [List.length_map] at hi; exact hi
      rw [alike_names (List.getElem?_eq_getElem hi2)]
      exact (key i _ (List.getElem?_eq_getElem hi2)).1
    · rw [noDup_pair, pair_cnt]
      intro s hs
      obtain ⟨d, hd, c, hc, e⟩ := mem_consL.1 hs
      rw [← e]
      exact ((keym d hd).1 c hc).2
  · intro H
    rw [Bool.and_eq_true, Bool.and_eq_true] at H
    obtain ⟨a1, a2, a3⟩ := H
    rw [List.all_eq_true] at a1
    have keym : ∀ d ∈ l, ownB d.s = true ∧ inB d.l.length 1 5 = true ∧ ∀ c ∈ d.l, con1 h c = true := by
      intro d hd
      have h1 := a1 d hd
      unfold data1 consB at h1
      rw [Bool.and_eq_true, Bool.and_eq_true, List.all_eq_true] at h1
      exact h1
    have ow : ∀ d ∈ l, ∀ c ∈ d.l, ownB c.s = true := by
      intro d hd c hc
      have h2 := (keym d hd).2.2 c hc
      unfold con1 at h2
      rw [Bool.and_eq_true] at h2
      exact h2.1
    rw [names fun d hd => (keym d hd).1] at a2
    rw [cons ow, noDup_pair, pair_cnt] at a3
    unfold noDupB at a2
    rw [noDupTo_iff] at a2
    intro i d hi hd
    have hm : d ∈ l := List.mem_of_getElem? hd
    obtain ⟨k1, k2, k3⟩ := keym d hm
    unfold dataB
    have h9 := a2 i (by rw [List.length_map]; exact hi)
    rw [alike_names hd] at h9
    rw [h9, k1, k2]
    show (d.l.all (conB h l) && true) = true
    rw [Bool.and_true, List.all_eq_true]
    intro c hc
    rw [con_parts, k3 c hc, decide_eq_true (a3 c.s (mem_consL.2 ⟨d, hm, c, hc, rfl⟩))]
    rfl
theorem prog_same (h : Nat) (x : Tr) : progB h x = (datasB h x.l && (decsB (okz h).de x.ds 12 0 && decide (sumZ (cnt h).de x.ds ≤ 200))) := by
  unfold progB datasB
  rw [datas_same]
  generalize x.l.all (data1 h) = a
  generalize noTwoB (x.l.map Tr.s) = b
  generalize noTwoB (consL x.l) = c
  generalize decide (x.l.length ≤ 5) = e
  generalize (decsB (okz h).de x.ds 12 0 && decide (sumZ (cnt h).de x.ds ≤ 200)) = f
  cases a <;> cases b <;> cases c <;> cases e <;> cases f <;> rfl
end Go.Proofs.YtgoieaalmlajfaiGreat

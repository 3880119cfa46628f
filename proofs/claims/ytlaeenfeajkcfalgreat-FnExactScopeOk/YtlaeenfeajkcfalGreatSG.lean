/- Made of VR, VSa, VS, VT. -/
import Derived.Test.YtlaeenfeajkcfalGreatSF
import Derived.Deep.DeepCutAuto
import Derived.Deep.CutBlock
namespace Go.Proofs.YtlaeenfeajkcfalGreat.Fr
open Go.ChangeShapes Go.WideShapes Go.ChangeAt Go.RowKit Go.Proofs.YtlaeenfeajkcfalGreat.Nm
set_option linter.unusedVariables false

theorem ret_two {i : Value} {a b : Bool} (h : a = b) : Ending.returned (.tuple #[i, .bool a]) = .returned (.tuple #[i, .bool b]) := by rw [h]
theorem srt_take {l : List ByteArray} {s : ByteArray} {k : Nat} (h : Srt l) (hk : k < l.length) (hx : LtS l[k] s) : ∀ x ∈ l.take (k + 1), LtS x s := by
  intro x hxm
  rw [List.take_succ_eq_append_getElem hk] at hxm
  rcases List.mem_append.1 hxm with h1 | h1
  · have h2 : Srt (l.take (k + 1)) := List.Pairwise.sublist (List.take_sublist _ _) h
    rw [List.take_succ_eq_append_getElem hk] at h2
    have h3 := (List.pairwise_append.1 h2).2.2 x h1 l[k] (by simp)
    unfold LtS at *
    exact List.lt_of_le_of_lt h3 hx
  · rw [List.mem_singleton] at h1
    rw [h1]
    exact hx
theorem srt_drop {l : List ByteArray} {s : ByteArray} {k : Nat} (h : Srt l) (hk : k < l.length) (hx : ¬ LtS l[k] s) : ∀ x ∈ l.drop k, ¬ LtS x s := by
  intro x hxm
  rw [List.drop_eq_getElem_cons hk] at hxm
  rcases List.mem_cons.1 hxm with h1 | h1
  · rw [h1]
    exact hx
  · have h2 : Srt (l.drop k) := List.Pairwise.sublist (List.drop_sublist _ _) h
    rw [List.drop_eq_getElem_cons hk] at h2
    have h3 := (List.pairwise_cons.1 h2).1 x h1
    unfold LtS at *
    exact fun h4 => hx (List.lt_of_le_of_lt h3 h4)
theorem bind_cell {w : World} {o : Option Addr} {l : List ByteArray} (h : BindR w o l) {k : Nat} (hk : k < l.length) : ∃ b off, o = some ⟨b, off, none⟩ ∧ w.cell? ⟨b, off + k, none⟩ = some (.string l[k]) := by
  rcases h with h | ⟨b, off, cur, h1, h2, h3, h4⟩
  · rw [h] at hk
    cases hk
  · exact ⟨b, off, h1, (cell_of h2 (off + k)).trans (h3 k _ (List.getElem?_eq_getElem hk))⟩
set_option maxHeartbeats 1000000 in
set_option maxRecDepth 100000 in
theorem search_any (l : List ByteArray) (s : ByteArray) (o : Option Addr) (c : Nat) (w : World) (hl : l.length ≤ 100000000) (hb : BindR w o l) (hs : Srt l) (f : Bool) (hf : f = true ↔ s ∈ l) :
    Calls Tryz.prog 121 #[.slice o l.length c, .string s] w fun e w' => ∃ i, e = .returned (.tuple #[i, .bool f]) ∧ w' = w := by
  have HB := hide hb
  have HS := hide hs
  have HF := hide hf
  clear hb hs hf
  go_enter Tryz.func121, Tryz.ntmps121
  go_wp2
  go_loop [7, 8] (fun t7 t8 => ∃ i j : Nat, i ≤ j ∧ j ≤ l.length ∧ t7 = .int .i64 i ∧ t8 = .int .i64 j ∧ (∀ x ∈ l.take i, LtS x s) ∧ (∀ x ∈ l.drop j, ¬ LtS x s)) (fun t7 t8 => (intOf t8).toNat - (intOf t7).toNat)
  case atStart => exact ⟨0, l.length, Nat.zero_le _, Nat.le_refl _, rfl, rfl, fun x hx => by simp at hx, fun x hx => by simp at hx⟩
  case round =>
    obtain ⟨i, j, hij, hjl, rfl, rfl, h1, h2⟩ := hrel
    have H1 := hide h1
    have H2 := hide h2
    clear h1 h2
    by_cases hlt : i < j
    · have hlt2 : (i : Int) < j := by omega
      obtain ⟨m, hm⟩ : ∃ m : Nat, (i + j) / 2 = m := ⟨_, rfl⟩
      have hml : m < l.length := by omega
      obtain ⟨b, off, rfl, hc⟩ := bind_cell HB.out hml
      have hmid : ((i : Int) + j) / 2 = m := by omega
      generalize hy : l[m] = y at hc
      have HY : Hid (l[m] = y) := hy
      clear hy
      cases ht : Op.bytesLess y.toList s.toList
      · have HT : Hid (¬ LtS l[m] s) := by
          show ¬ LtS l[m] s
          rw [HY.out]
          rw [less_eq, decide_eq_false_iff_not] at ht
          exact ht
        have hti : i ≤ m := by omega
        go_wp2
        go_round
        case rel => exact ⟨i, m, hti, by omega, rfl, rfl, H1.out, srt_drop HS.out hml HT.out⟩
        case measure => simp [intOf]; omega
      · have HT : Hid (LtS l[m] s) := by
          show LtS l[m] s
          rw [HY.out]
          rw [less_eq, decide_eq_true_eq] at ht
          exact ht
        go_wp2
        go_round
        case rel => exact ⟨m + 1, j, by omega, by omega, by go_num, rfl, srt_take HS.out hml HT.out, H2.out⟩
        case measure => simp [intOf]; omega
    · have hie : i = j := by omega
      subst hie
      by_cases hil : i < l.length
      · have hil2 : (i : Int) < l.length := by omega
        obtain ⟨b, off, rfl, hc⟩ := bind_cell HB.out hil
        generalize hy : l[i] = y at hc
        have HY : Hid (l[i] = y) := hy
        clear hy
        cases ht : (y.toList == s.toList)
        · have HN : Hid (f = false) := by
            show f = false
            cases hf : f with
            | false => rfl
            | true =>
              exfalso
              have hm := HF.out.1 hf
              rw [← List.take_append_drop i l] at hm
              rcases List.mem_append.1 hm with h9 | h9
              · exact ltS_irrefl s (H1.out s h9)
              · have h8 := H2.out s h9
                rw [List.drop_eq_getElem_cons hil] at h9
                rcases List.mem_cons.1 h9 with h7 | h7
                · rw [HY.out] at h7
                  rw [h7] at ht
                  simp at ht
                · have h2 : Srt (l.drop i) := List.Pairwise.sublist (List.drop_sublist _ _) HS.out
                  rw [List.drop_eq_getElem_cons hil] at h2
                  have h3 := (List.pairwise_cons.1 h2).1 s h7
                  rw [HY.out] at h3
                  have h4 := H2.out y (by rw [List.drop_eq_getElem_cons hil, HY.out]; simp)
                  unfold LtS at h4
                  have h5 := List.le_antisymm h3 (List.not_lt.1 h4)
                  rw [h5] at ht
                  simp at ht
          go_wp2
          go_ret2
          exact ⟨⟨_, ret_two HN.out.symm⟩, rfl⟩
        · have HN : Hid (f = true) := by
            refine HF.out.2 ?_
            rw [← (toList_beq _ _).1 ht, ← HY.out]
            exact List.getElem_mem hil
          go_wp2
          go_ret2
          exact ⟨⟨_, ret_two HN.out.symm⟩, rfl⟩
      · have HN : Hid (f = false) := by
          show f = false
          cases hf : f with
          | false => rfl
          | true =>
            exfalso
            have hm := HF.out.1 hf
            have h9 := H1.out s (by rw [List.take_of_length_le (by omega)]; exact hm)
            exact ltS_irrefl s h9
        go_wp2
        go_ret2
        exact ⟨⟨_, ret_two HN.out.symm⟩, rfl⟩
theorem int_rowOf {B : Nat} {w : World} {o : Option Addr} {n c : Nat} {l : List Nat} (h : IntRow B w (.slice o n c) l) (hne : l ≠ []) : ∃ g, o = some ⟨g, 0, none⟩ ∧ n = l.length ∧ l.length ≤ c ∧ B ≤ g ∧ g < w.heap.size ∧ (∀ (i x : Nat), l[i]? = some x → w.cell? ⟨g, i, none⟩ = some (.int .i64 (x : Int))) := by
  obtain ⟨hl, hc⟩ := h
  rcases hc with ⟨e, h0⟩ | ⟨g, cap, cur, e, hb, hg, hn, hcap, hsz, htk⟩
  · exact absurd (List.length_eq_zero_iff.1 h0) hne
  · cases e
    refine ⟨g, rfl, rfl, hn, hb, heap_lt hg, fun i x hi => ?_⟩
    exact owns_cell hg htk i (by have := (List.getElem?_eq_some_iff.1 hi).1; omega) _ (by unfold natV; rw [List.getElem?_map, hi]; rfl)
set_option maxHeartbeats 1000000 in
set_option maxRecDepth 100000 in
theorem clone_any {B : Nat} {w : World} {o : Option Addr} {n c : Nat} {l : List Nat} (h : IntRow B w (.slice o n c) l) (hne : l ≠ []) (hl : l.length ≤ 50000000) :
    Calls Tryz.prog 120 #[.slice o n c] w fun e w' => ∃ o' c', e = .returned (.slice o' l.length c') ∧ IntRow w.heap.size w' (.slice o' l.length c') l ∧ Below w.heap.size w w' := by
  obtain ⟨g, rfl, rfl, hlc, hBg, hgl, hcell⟩ := int_rowOf h hne
  have hB1 : Below w.heap.size w (w.alloc (.cells #[] 3)) := (Below.refl _ w).alloc (Nat.le_refl _) _
  have hown0 : (w.alloc (.cells #[] 3)).ownsRow w.heap.size 3 1 (.slice (some ⟨w.heap.size, 0, none⟩) 0 0) 0 [] := owns_empty w 3 1
  obtain ⟨i0, hi0, hz0, hz1, hz2⟩ := info_parts int_info
  obtain ⟨v4, w4, hr4, hown4, hgr4, hbk4⟩ := app_run (P := Tryz.prog) Tryz.underlying151 hi0 hz0 hz1 hz2 rfl (by decide) (by decide) hown0 hB1.size (some ⟨g, 0, none⟩) l.length c (natV l) (by unfold natV; simp) (fun _ => ⟨g, 0, rfl, fun j u hu => by
    unfold natV at hu
    rw [List.getElem?_map, Option.map_eq_some_iff] at hu
    obtain ⟨x, hx, rfl⟩ := hu
    rw [Nat.zero_add]
    exact (hB1.cell (p := ⟨g, j, none⟩) hgl).trans (hcell j x hx)⟩) (fun u hu => by
    unfold natV at hu
    obtain ⟨x, -, rfl⟩ := List.mem_map.1 hu
    rfl) (by omega) 151
  rw [Nat.zero_add, List.nil_append] at hown4
  obtain ⟨o4, c4, hv4⟩ := owns_form hown4
  subst hv4
  have HR4 := hide hr4
  have HF : Hid (∃ o' c', Ending.returned (.slice o4 l.length c4) = .returned (.slice o' l.length c') ∧ IntRow w.heap.size w4 (.slice o' l.length c') l ∧ Below w.heap.size w w4) := ⟨o4, c4, rfl, hown4, hB1.trans (below_grown hgr4 hB1.size fun k hk => by cases hk; exact Nat.le_refl _)⟩
  have hnil : (binOp .eql 151 (.slice (some ⟨g, 0, none⟩) l.length c) (.slice none 0 0)).run Tryz.prog w = .ok (.bool false) w := by kernel_rfl
  clear h hne hcell hB1 hown0 hi0 hz0 hz1 hz2 hown4 hgr4 hbk4 hr4
  go_enter Tryz.func120, Tryz.ntmps120
  go_wp2_with (at_builtin; refine Lib.wpList_append_run _ rfl _ _ _ _ rfl _ _ rfl rfl _ _ HR4.out ?_)
  go_ret
  exact HF.out
end Go.Proofs.YtlaeenfeajkcfalGreat.Fr
namespace Go.Proofs.YtlaeenfeajkcfalGreat.Fr
open Go.ChangeShapes Go.WideShapes Go.ChangeAt Go.RowKit Go.Proofs.YtlaeenfeajkcfalGreat.Nm
set_option linter.unusedVariables false

/-- A place is reached from another in so many steps. -/
def upN (G : Log) (s : ByteArray) : Nat → Nat → Nat → Prop
  | 0, i, j => i = j
  | n + 1, i, j => ∃ k p, upN G s n i k ∧ p ∈ waysOf G k ∧ s ∉ p.2 ∧ p.1 = j
def Rch (G : Log) (s : ByteArray) (pl : List Nat) (i : Nat) : Prop := ∃ p ∈ pl, ∃ n, upN G s n p i
theorem Rch.start {G : Log} {s : ByteArray} {pl : List Nat} {i : Nat} (h : i ∈ pl) : Rch G s pl i := ⟨i, h, 0, rfl⟩
theorem Rch.step {G : Log} {s : ByteArray} {pl : List Nat} {i : Nat} (h : Rch G s pl i) {p : Nat × List ByteArray} (hp : p ∈ waysOf G i) (hs : s ∉ p.2) : Rch G s pl p.1 := by
  obtain ⟨q, hq, n, hn⟩ := h
  exact ⟨q, hq, n + 1, i, p, hn, hp, hs, rfl⟩
def seenB (sv : List Int) (so : Int) (i : Nat) : Bool := sv[i]? == some so
/-- How far it was gone back: what is left, what was seen. -/
structure Dfs (G : Log) (s : ByteArray) (nk : Nat) (pl : List Nat) (sv : List Int) (so : Int) (left : List Nat) : Prop where
  len : sv.length = nk
  le : ∀ x ∈ sv, x ≤ so
  p1 : ∀ i ∈ left, i < nk ∧ Rch G s pl i
  p2 : ∀ i, seenB sv so i = true → i ≠ 0 ∧ ∀ p ∈ waysOf G i, s ∉ p.2 → seenB sv so p.1 = true ∨ p.1 ∈ left
  p3 : ∀ i ∈ pl, seenB sv so i = true ∨ i ∈ left
def mes (G : Log) (sv : List Int) (so : Int) (left : List Nat) : Nat := (G.filter fun g => !seenB sv so g.1).length + (sv.filter fun x => !(x == so)).length + left.length
theorem Dfs.none {G : Log} {s : ByteArray} {nk : Nat} {pl : List Nat} {sv : List Int} {so : Int} (h : Dfs G s nk pl sv so []) : ¬ Rch G s pl 0 := by
  have key : ∀ n p i, p ∈ pl → upN G s n p i → seenB sv so i = true := by
    intro n
    induction n with
    | zero =>
      intro p i hp hu
      have e : p = i := hu
      subst e
      rcases h.p3 p hp with h1 | h1
      · exact h1
      · cases h1
    | succ n ih =>
      intro p i hp hu
      obtain ⟨k, q, h1, h2, h3, rfl⟩ := hu
      rcases (h.p2 k (ih p k hp h1)).2 q h2 h3 with h4 | h4
      · exact h4
      · cases h4
  rintro ⟨p, hp, n, hn⟩
  exact (h.p2 0 (key n p 0 hp hn)).1 rfl
theorem Dfs.skip {G : Log} {s : ByteArray} {nk : Nat} {pl : List Nat} {sv : List Int} {so : Int} {l : List Nat} {a : Nat} (h : Dfs G s nk pl sv so (l ++ [a])) (ha : seenB sv so a = true) : Dfs G s nk pl sv so l := by
  refine ⟨h.len, h.le, fun i hi => h.p1 i (List.mem_append_left _ hi), fun i hi => ⟨(h.p2 i hi).1, fun p hp hs => ?_⟩, fun i hi => ?_⟩
  · rcases (h.p2 i hi).2 p hp hs with h1 | h1
    · exact .inl h1
    · rcases List.mem_append.1 h1 with h1 | h1
      · exact .inr h1
      · rw [List.mem_singleton] at h1
        rw [h1]
        exact .inl ha
  · rcases h.p3 i hi with h1 | h1
    · exact .inl h1
    · rcases List.mem_append.1 h1 with h1 | h1
      · exact .inr h1
      · rw [List.mem_singleton] at h1
        rw [h1]
        exact .inl ha
/-- What goes on from a place. -/
def outs (s : ByteArray) (ps : List (Nat × List ByteArray)) : List Nat := (ps.filter fun p => !hasS p.2 s).map (·.1)
theorem outs_mem {s : ByteArray} {ps : List (Nat × List ByteArray)} {i : Nat} : i ∈ outs s ps ↔ ∃ p ∈ ps, s ∉ p.2 ∧ p.1 = i := by
  unfold outs
  rw [List.mem_map]
  constructor
  · rintro ⟨p, hp, rfl⟩
    obtain ⟨h1, h2⟩ := List.mem_filter.1 hp
    refine ⟨p, h1, fun h3 => ?_, rfl⟩
    rw [hasS_mem.2 h3] at h2
    cases h2
  · rintro ⟨p, hp, h2, rfl⟩
    refine ⟨p, List.mem_filter.2 ⟨hp, ?_⟩, rfl⟩
    cases h3 : hasS p.2 s with
    | false => rfl
    | true => exact absurd (hasS_mem.1 h3) h2
theorem outs_len (s : ByteArray) (ps : List (Nat × List ByteArray)) : (outs s ps).length ≤ ps.length := by
  unfold outs
  rw [List.length_map]
  exact List.length_filter_le _ _
theorem outs_snoc (s : ByteArray) (ps : List (Nat × List ByteArray)) (p : Nat × List ByteArray) : outs s (ps ++ [p]) = outs s ps ++ (if hasS p.2 s then [] else [p.1]) := by
  unfold outs
  rw [List.filter_append, List.map_append, List.filter_cons]
  cases hasS p.2 s <;> rfl
theorem seen_set {sv : List Int} {so : Int} {a : Nat} (ha : a < sv.length) (i : Nat) : seenB (sv.set a so) so i = (decide (i = a) || seenB sv so i) := by
  unfold seenB
  rw [List.getElem?_set]
  by_cases e : a = i
  · subst e
    rw [if_pos rfl, if_pos ha]
    simp
  · rw [if_neg e]
    have e2 : ¬ i = a := fun h => e h.symm
    simp [e2]
theorem Dfs.mark {G : Log} {s : ByteArray} {nk : Nat} {pl : List Nat} {sv : List Int} {so : Int} {l : List Nat} {a : Nat} (h : Dfs G s nk pl sv so (l ++ [a])) (ha0 : a ≠ 0) (hG : ∀ g ∈ G, g.2.1 < nk) : Dfs G s nk pl (sv.set a so) so (l ++ outs s (waysOf G a)) := by
  have hal := (h.p1 a (by simp)).1
  have hl : a < sv.length := by rw [h.len]; exact hal
  refine ⟨by rw [List.length_set]; exact h.len, fun x hx => ?_, fun i hi => ?_, fun i hi => ?_, fun i hi => ?_⟩
  · rcases List.mem_or_eq_of_mem_set hx with h1 | h1
    · exact h.le x h1
    · rw [h1]
      exact Int.le_refl _
  · rcases List.mem_append.1 hi with h1 | h1
    · exact h.p1 i (List.mem_append_left _ h1)
    · obtain ⟨p, hp, hs, rfl⟩ := outs_mem.1 h1
      exact ⟨hG _ (waysOf_mem.1 hp), (h.p1 a (by simp)).2.step hp hs⟩
  · rw [seen_set hl, Bool.or_eq_true, decide_eq_true_eq] at hi
    by_cases e : i = a
    · subst e
      exact ⟨ha0, fun p hp hs => .inr (List.mem_append_right _ (outs_mem.2 ⟨p, hp, hs, rfl⟩))⟩
    · have hi2 : seenB sv so i = true := by
        rcases hi with h1 | h1
        · exact absurd h1 e
        · exact h1
      refine ⟨(h.p2 i hi2).1, fun p hp hs => ?_⟩
      rw [seen_set hl, Bool.or_eq_true, decide_eq_true_eq]
      rcases (h.p2 i hi2).2 p hp hs with h1 | h1
      · exact .inl (.inr h1)
      · rcases List.mem_append.1 h1 with h1 | h1
        · exact .inr (List.mem_append_left _ h1)
        · rw [List.mem_singleton] at h1
          exact .inl (.inl h1)
  · rw [seen_set hl, Bool.or_eq_true, decide_eq_true_eq]
    rcases h.p3 i hi with h1 | h1
    · exact .inl (.inr h1)
    · rcases List.mem_append.1 h1 with h1 | h1
      · exact .inr (List.mem_append_left _ h1)
      · rw [List.mem_singleton] at h1
        exact .inl (.inl h1)
theorem filter_mark {sv : List Int} {so : Int} {a : Nat} (hl : a < sv.length) (hns : seenB sv so a = false) : ∀ (G : Log), (G.filter fun g => !seenB (sv.set a so) so g.1).length + (waysOf G a).length = (G.filter fun g => !seenB sv so g.1).length := by
  intro G
  induction G with
  | nil => rfl
  | cons g r ih =>
    have e : waysOf (g :: r) a = (if g.1 == a then [g.2] else []) ++ waysOf r a := by
      unfold waysOf
      rw [List.filter_cons]
      cases (g.1 == a) <;> rfl
    rw [e, List.filter_cons, List.filter_cons, seen_set hl, List.length_append]
    by_cases h : g.1 = a
    · have h2 : (g.1 == a) = true := by simpa using h
      rw [h2, h, hns]
      simp
      omega
    · have h2 : (g.1 == a) = false := by simpa using h
      rw [h2, decide_eq_false h, Bool.false_or]
      cases seenB sv so g.1
      · simp
        omega
      · simp
        exact ih
theorem count_mark {so : Int} : ∀ {sv : List Int} {a : Nat}, a < sv.length → seenB sv so a = false → ((sv.set a so).filter fun x => !(x == so)).length + 1 = (sv.filter fun x => !(x == so)).length := by
  intro sv
  induction sv with
  | nil => intro a h; cases h
  | cons x r ih =>
    intro a ha hns
    cases a with
    | zero =>
      have hx : (x == so) = false := by
        unfold seenB at hns
        simpa using hns
      rw [List.set_cons_zero, List.filter_cons, List.filter_cons, hx]
      simp
    | succ a =>
      have h9 := ih (a := a) (by simpa using ha) (by unfold seenB at hns ⊢; simpa using hns)
      rw [List.set_cons_succ, List.filter_cons, List.filter_cons]
      cases (x == so)
      · simp
        omega
      · simp
        exact h9
theorem mes_mark {G : Log} {s : ByteArray} {sv : List Int} {so : Int} {l : List Nat} {a : Nat} (hl : a < sv.length) (hns : seenB sv so a = false) : mes G (sv.set a so) so (l ++ outs s (waysOf G a)) < mes G sv so (l ++ [a]) := by
  have h1 := filter_mark hl hns G
  have h2 := count_mark hl hns
  have h3 := outs_len s (waysOf G a)
  unfold mes
  rw [List.length_append, List.length_append, List.length_singleton]
  omega
theorem mes_skip (G : Log) (sv : List Int) (so : Int) (l : List Nat) (a : Nat) : mes G sv so l < mes G sv so (l ++ [a]) := by
  unfold mes
  rw [List.length_append, List.length_singleton]
  omega
theorem mes_len (G : Log) (sv : List Int) (so : Int) (l : List Nat) : l.length ≤ mes G sv so l := by unfold mes; omega
theorem mes_start (G : Log) (sv : List Int) (so : Int) (l : List Nat) : mes G sv so l ≤ G.length + sv.length + l.length := by
  unfold mes
  have h1 := List.length_filter_le (fun g : Nat × Nat × List ByteArray => !seenB sv so g.1) G
  have h2 := List.length_filter_le (fun x : Int => !(x == so)) sv
  omega
theorem Dfs.start {G : Log} {s : ByteArray} {nk : Nat} {pl : List Nat} {sv : List Int} {so : Int} (hl : sv.length = nk) (hle : ∀ x ∈ sv, x ≤ so) (hp : ∀ i ∈ pl, i < nk) : Dfs G s nk pl sv (so + 1) pl := by
  refine ⟨hl, fun x hx => by have := hle x hx; omega, fun i hi => ⟨hp i hi, .start hi⟩, fun i hi => ?_, fun i hi => .inr hi⟩
  exfalso
  unfold seenB at hi
  have h1 : sv[i]? = some (so + 1) := by simpa using hi
  have := hle _ (List.mem_of_getElem? h1)
  omega
end Go.Proofs.YtlaeenfeajkcfalGreat.Fr
namespace Go.Proofs.YtlaeenfeajkcfalGreat.Fr
open Go.ChangeShapes Go.WideShapes Go.ChangeAt Go.RowKit Go.Proofs.YtlaeenfeajkcfalGreat.Nm
set_option linter.unusedVariables false

/-- The net while it is sought in: its ways, and what each place was seen by. -/
structure CNet (w : World) (n g cap : Nat) (ks : List (Bool × Addr)) (G : Log) (sv : List Int) (so : Int) : Prop where
  obj : ∃ me md, w.heap[n]? = some (.cells #[.slice (some ⟨g, 0, none⟩) ks.length cap, .map (some me), .map (some md), .int .i64 so] 93 (0, 0))
  plc : ∃ cur, w.heap[g]? = some (.cells cur 100 (0, 0)) ∧ ∀ i, i < ks.length → ∃ v s, cur[i * 4 + 2]? = some v ∧ WayV w (waysOf G i) v ∧ sv[i]? = some s ∧ cur[i * 4 + 3]? = some (.int .i64 s)
  len : sv.length = ks.length
  cap_ : ks.length ≤ cap
theorem CNet.keep {w w' : World} {n g cap : Nat} {ks : List (Bool × Addr)} {G : Log} {sv : List Int} {so : Int} (h : CNet w n g cap ks G sv so) (hb : ∀ (b : Nat) (cur : Array Value) (t : TypeId), t ≠ 3 → w.heap[b]? = some (.cells cur t (0, 0)) → w'.heap[b]? = w.heap[b]?) : CNet w' n g cap ks G sv so := by
  obtain ⟨⟨me, md, h1⟩, ⟨cur, h2, h3⟩, h4, h5⟩ := h
  refine ⟨⟨me, md, (hb n _ _ (by decide) h1).trans h1⟩, ⟨cur, (hb g _ _ (by decide) h2).trans h2, fun i hi => ?_⟩, h4, h5⟩
  obtain ⟨v, s, e1, e2, e3, e4⟩ := h3 i hi
  exact ⟨v, s, e1, e2.keep (fun b c hc _ => hb b c _ (by decide) hc) (fun b c hc => hb b c _ (by decide) hc), e3, e4⟩
theorem CNet.later {w w' : World} {n g cap : Nat} {ks : List (Bool × Addr)} {G : Log} {sv : List Int} {so : Int} (h : CNet w n g cap ks G sv so) (hb : Below w.heap.size w w') : CNet w' n g cap ks G sv so := h.keep fun b cur t _ hc => hb.block b (heap_lt hc)
theorem CNet.ne {w : World} {n g cap : Nat} {ks : List (Bool × Addr)} {G : Log} {sv : List Int} {so : Int} (h : CNet w n g cap ks G sv so) : n ≠ g := by
  obtain ⟨⟨me, md, h1⟩, ⟨cur, h2, h3⟩, h4, h5⟩ := h
  intro e
  rw [e, h2] at h1
  cases h1
theorem CNet.lts {w : World} {n g cap : Nat} {ks : List (Bool × Addr)} {G : Log} {sv : List Int} {so : Int} (h : CNet w n g cap ks G sv so) : n < w.heap.size ∧ g < w.heap.size := by
  obtain ⟨⟨me, md, h1⟩, ⟨cur, h2, h3⟩, h4, h5⟩ := h
  exact ⟨heap_lt h1, heap_lt h2⟩
/-- The number of times it was sought is another. -/
theorem CNet.turn {w : World} {n g cap : Nat} {ks : List (Bool × Addr)} {G : Log} {sv : List Int} {so : Int} (h : CNet w n g cap ks G sv so) (so' : Int) : CNet (w.setCell ⟨n, 3, none⟩ (.int .i64 so')) n g cap ks G sv so' := by
  have hne := h.ne
  obtain ⟨⟨me, md, h1⟩, ⟨cur, h2, h3⟩, h4, h5⟩ := h
  have hset : ∀ b, b ≠ n → (w.setCell ⟨n, 3, none⟩ (.int .i64 so')).heap[b]? = w.heap[b]? := fun b hb => heap_set_other _ hb
  have hoth : ∀ (b : Nat) (c : Array Value) (t : TypeId), t ≠ 93 → w.heap[b]? = some (.cells c t (0, 0)) → (w.setCell ⟨n, 3, none⟩ (.int .i64 so')).heap[b]? = w.heap[b]? := fun b c t ht hc => hset b fun e => by
    rw [e, h1] at hc
    cases hc
    exact ht rfl
  refine ⟨⟨me, md, ?_⟩, ⟨cur, (hset g hne.symm).trans h2, fun i hi => ?_⟩, h4, h5⟩
  · have h9 := heap_set_same (j := 3) (.int .i64 so') h1
    simpa using h9
  · obtain ⟨v, s, e1, e2, e3, e4⟩ := h3 i hi
    exact ⟨v, s, e1, e2.keep (fun b c hc _ => hoth b c _ (by decide) hc) (fun b c hc => hoth b c _ (by decide) hc), e3, e4⟩
/-- A place is marked. -/
theorem CNet.mark {w : World} {n g cap : Nat} {ks : List (Bool × Addr)} {G : Log} {sv : List Int} {so : Int} (h : CNet w n g cap ks G sv so) {a : Nat} (ha : a < ks.length) (x : Int) : CNet (w.setCell ⟨g, a * 4 + 3, none⟩ (.int .i64 x)) n g cap ks G (sv.set a x) so := by
  have hne := h.ne
  obtain ⟨⟨me, md, h1⟩, ⟨cur, h2, h3⟩, h4, h5⟩ := h
  have hset : ∀ b, b ≠ g → (w.setCell ⟨g, a * 4 + 3, none⟩ (.int .i64 x)).heap[b]? = w.heap[b]? := fun b hb => heap_set_other _ hb
  have hoth : ∀ (b : Nat) (c : Array Value) (t : TypeId), t ≠ 100 → w.heap[b]? = some (.cells c t (0, 0)) → (w.setCell ⟨g, a * 4 + 3, none⟩ (.int .i64 x)).heap[b]? = w.heap[b]? := fun b c t ht hc => hset b fun e => by
    rw [e, h2] at hc
    cases hc
    exact ht rfl
  have hin : a * 4 + 3 < cur.size := by
    obtain ⟨v, s, e1, e2, e3, e4⟩ := h3 a ha
    exact (Array.getElem?_eq_some_iff.1 e4).1
  refine ⟨⟨me, md, (hset n hne).trans h1⟩, ⟨cur.set! (a * 4 + 3) (.int .i64 x), heap_set_same _ h2, fun i hi => ?_⟩, by rw [List.length_set]; exact h4, h5⟩
  obtain ⟨v, s, e1, e2, e3, e4⟩ := h3 i hi
  have hv := e2.keep (fun b c hc _ => hoth b c _ (by decide) hc) (fun b c hc => hoth b c _ (by decide) hc)
  have hget : ∀ j, j ≠ a * 4 + 3 → (cur.set! (a * 4 + 3) (.int .i64 x))[j]? = cur[j]? := fun j hj => by
    rw [Array.set!_eq_setIfInBounds, Array.getElem?_setIfInBounds_ne (fun e => hj e.symm)]
  by_cases e : i = a
  · subst e
    refine ⟨v, x, by rw [hget _ (by omega)]; exact e1, hv, ?_, ?_⟩
    · rw [List.getElem?_set_self (by rw [h4]; exact hi)]
    · rw [Array.set!_eq_setIfInBounds, Array.getElem?_setIfInBounds_self]
      simp [hin]
  · refine ⟨v, s, by rw [hget _ (by omega)]; exact e1, hv, ?_, by rw [hget _ (by omega)]; exact e4⟩
    rw [List.getElem?_set_ne (fun h => e h.symm)]
    exact e3
/-- The last of an owned row is left out. -/
theorem int_pop {B : Nat} {w : World} {g m c : Nat} {l : List Nat} {a : Nat} (h : IntRow B w (.slice (some ⟨g, 0, none⟩) m c) (l ++ [a])) : IntRow B w (.slice (some ⟨g, 0, none⟩) l.length c) l := by
  obtain ⟨hl, hc⟩ := h
  rcases hc with ⟨e, -⟩ | ⟨g', cap, cur, e, hb, hg, hn, hcap, hsz, htk⟩
  · cases e
  · cases e
    rw [List.length_append, List.length_singleton] at hn htk
    refine ⟨by unfold natV; simp, .inr ⟨g, c, cur, rfl, hb, hg, by omega, hcap, hsz, ?_⟩⟩
    have h9 : (cur.toList.take ((l.length + 1) * 1)).take (l.length * 1) = (natV (l ++ [a])).take (l.length * 1) := by rw [htk]
    rw [List.take_take, Nat.min_eq_left (by omega)] at h9
    rw [h9]
    unfold natV
    rw [List.map_append, List.take_append_of_le_length (by simp), List.take_of_length_le (by simp)]
end Go.Proofs.YtlaeenfeajkcfalGreat.Fr
namespace Go.Proofs.YtlaeenfeajkcfalGreat.Fr
open Go.ChangeShapes Go.WideShapes Go.ChangeAt Go.RowKit Go.Proofs.YtlaeenfeajkcfalGreat.Nm
set_option linter.unusedVariables false

theorem least_any {α : Type} (G : Nat → α → Prop) : ∃ mu : α → Nat, ∀ w m, G m w → G (mu w) w ∧ mu w ≤ m := by
  have h : ∀ w, ∃ n, ∀ m, G m w → G n w ∧ n ≤ m := by
    intro w
    by_cases he : ∃ m, G m w
    · obtain ⟨m, hm⟩ := he
      induction m using Nat.strongRecOn with
      | ind m ih =>
        by_cases hl : ∃ k, k < m ∧ G k w
        · obtain ⟨k, hk, hg⟩ := hl
          exact ih k hk hg
        · refine ⟨m, fun k hk => ⟨hm, ?_⟩⟩
          rcases Nat.lt_or_ge k m with h1 | h1
          · exact absurd ⟨k, h1, hk⟩ hl
          · exact h1
    · exact ⟨0, fun m hm => absurd ⟨m, hm⟩ he⟩
  obtain ⟨f, hf⟩ := Classical.axiomOfChoice h
  exact ⟨f, fun w m hm => hf w m hm⟩
/-- What is kept of the memory while it is sought. -/
def K0 (w0 : World) (n g : Nat) (b : Nat) : Prop := b < w0.heap.size ∧ b ≠ n ∧ b ≠ g
/-- What is left is a row of its own; how far it was gone. -/
def COut (w0 : World) (n g cap : Nat) (ks : List (Bool × Addr)) (G : Log) (s : ByteArray) (pl : List Nat) (so : Int) (m : Nat) (t : Value) (wr : World) : Prop := ∃ left sv o7 c7, t = .slice o7 left.length c7 ∧ IntRow w0.heap.size wr (.slice o7 left.length c7) left ∧ CNet wr n g cap ks G sv so ∧ Dfs G s ks.length pl sv so left ∧ mes G sv so left = m ∧ m ≤ 15000000 ∧ Keeps (K0 w0 n g) w0 wr
theorem COut.later {w0 : World} {n g cap : Nat} {ks : List (Bool × Addr)} {G : Log} {s : ByteArray} {pl : List Nat} {so : Int} {m : Nat} {t : Value} {wr W : World} (h : COut w0 n g cap ks G s pl so m t wr) (hb : Below wr.heap.size wr W) : COut w0 n g cap ks G s pl so m t W := by
  obtain ⟨left, sv, o7, c7, e, h1, h2, h3, h4, h5, h6⟩ := h
  exact ⟨left, sv, o7, c7, e, owns_block h1 fun q hq => hb.block q (owns_lt h1 q hq).1, h2.later hb, h3, h4, h5, h6.trans (keeps_of hb fun k hk => Nat.lt_of_lt_of_le hk.1 h6.size)⟩
theorem int_type {B : Nat} {w : World} {v : Value} {l : List Nat} (h : IntRow B w v l) {b : Nat} {c : Array Value} {t : TypeId} {fz : Nat × Nat} (hb : w.heap[b]? = some (.cells c t fz)) (ht : t ≠ 3) : ∀ q, v.ownBlock = some q → q ≠ b := by
  intro q hq e
  rcases h.2 with ⟨e1, -⟩ | ⟨g', cap, cur, e1, hb1, hg', rest⟩
  · rw [e1] at hq
    cases hq
  · rw [e1] at hq
    have e9 : g' = q := Option.some.inj hq
    rw [e9, e, hb] at hg'
    cases hg'
    exact ht rfl
theorem ret_b {a b : Bool} (h : a = b) : Ending.returned (.bool a) = .returned (.bool b) := by rw [h]
set_option maxHeartbeats 4000000 in
set_option maxRecDepth 100000 in
theorem comesOut_any {B : Nat} {w : World} {n g cap : Nat} {ks : List (Bool × Addr)} {G : Log} {sv : List Int} {so : Nat} (hC : CNet w n g cap ks G sv (so : Int)) (hle : ∀ x ∈ sv, x ≤ (so : Int)) (hso : so ≤ 10000000) (s : ByteArray) {o : Option Addr} {m c : Nat} {pl : List Nat} (hp : IntRow B w (.slice o m c) pl) (hpn : pl ≠ []) (hpk : ∀ i ∈ pl, i < ks.length) (hkl : ks.length ≤ 5000000) (hgl : G.length ≤ 5000000) (hpl : pl.length ≤ 5000000) (hG : ∀ q ∈ G, q.2.1 < ks.length ∧ Srt q.2.2 ∧ q.2.2.length ≤ 50000000) (f : Bool) (hf : f = true ↔ Rch G s pl 0) :
    Calls Tryz.prog 98 #[.pointer (some ⟨n, 0, none⟩), .string s, .slice o m c] w fun e w' => ∃ sv', e = .returned (.bool f) ∧ CNet w' n g cap ks G sv' ((so : Int) + 1) ∧ (∀ x ∈ sv', x ≤ (so : Int) + 1) ∧ Keeps (K0 w n g) w w' := by
  have hne := hC.ne
  obtain ⟨hnl, hgl2⟩ := hC.lts
  obtain ⟨me, md, hobj⟩ := hC.obj
  have z3 := cell_of hobj 3
  have f3 := frozen_of hobj 3
  simp only [List.getElem?_toArray, List.getElem?_cons_succ, List.getElem?_cons_zero] at z3
  obtain ⟨W1, hW1⟩ : ∃ W1, w.setCell ⟨n, 3, none⟩ (.int .i64 ((so : Int) + 1)) = W1 := ⟨_, rfl⟩
  have hC1 : CNet W1 n g cap ks G sv ((so : Int) + 1) := by rw [← hW1]; exact hC.turn _
  have hp1 : IntRow B W1 (.slice o m c) pl := owns_block hp fun q hq => by rw [← hW1]; exact heap_set_other _ (int_type hp hobj (by decide) q hq)
  have hs1 : W1.heap.size = w.heap.size := by rw [← hW1]; simp
  have hk1 : Keeps (K0 w n g) w W1 := by rw [← hW1]; exact keeps_set w n 3 _ fun h => h.2.1 rfl
  have HCL := hide (clone_any hp1 hpn (by omega))
  have HC1 := hide hC1
  have HK1 := hide hk1
  have HD1 : Hid (Dfs G s ks.length pl sv ((so : Int) + 1) pl) := Dfs.start hC.len hle hpk
  have HM1 : Hid (mes G sv ((so : Int) + 1) pl ≤ 15000000) := by
    have h1 := mes_start G sv ((so : Int) + 1) pl
    have h2 := hC.len
    show mes G sv ((so : Int) + 1) pl ≤ 15000000
    omega
  have HG := hide hG
  have HF := hide hf
  obtain ⟨mu, hmu⟩ := least_any (α := Value × World) (fun m q => COut w n g cap ks G s pl ((so : Int) + 1) m q.1 q.2)
  have HMU : Hid (∀ t W m, COut w n g cap ks G s pl ((so : Int) + 1) m t W → COut w n g cap ks G s pl ((so : Int) + 1) (mu (t, W)) t W ∧ mu (t, W) ≤ m) := fun t W m h => hmu (t, W) m h
  clear hC hp hp1 hpn hpk hC1 hk1 hG hf hobj hle hmu hpl
  go_enter Tryz.func98, Tryz.ntmps98
  go_wp2_with fail
  refine Calls.mono HCL.out ?_
  rintro e w2 ⟨o2, c2, rfl, hr2, hb2⟩
  have HST : Hid (COut w n g cap ks G s pl ((so : Int) + 1) (mes G sv ((so : Int) + 1) pl) (.slice o2 pl.length c2) w2) := ⟨pl, sv, o2, c2, rfl, owns_base hr2 (fun q hq => by have := (owns_lt hr2 q hq).2; omega), HC1.out.later hb2, HD1.out, rfl, HM1.out, HK1.out.trans (keeps_of hb2 fun k hk => by have := hk.1; omega)⟩
  clear hr2 hb2 z3 f3 hW1
  go_wp2
  go_loopw [7] (fun t7 wr => COut w n g cap ks G s pl ((so : Int) + 1) (mu (t7, wr)) t7 wr) (fun t7 wr => mu (t7, wr))
  case atStart => exact (HMU.out _ _ _ HST.out).1
  case round =>
    generalize hmm : mu (u7, wr) = M at hrel
    have HMM := hide hmm
    clear hmm
    obtain ⟨left, sv1, o7, c7, rfl, hrow, hcn, hdf, hms, hm15, hkp⟩ := hrel
    have HROW := hide hrow
    have HCN := hide hcn
    have HDF := hide hdf
    have HMS := hide hms
    have HKP := hide hkp
    have hspl : left = [] ∨ ∃ l a, left = l ++ [a] := by
      rcases List.eq_nil_or_concat left with h | ⟨l, a, h⟩
      · exact .inl h
      · exact .inr ⟨l, a, by rw [h, List.concat_eq_append]⟩
    rcases hspl with rfl | ⟨l, a, rfl⟩
    · have HN : Hid (f = false) := by
        show f = false
        cases hf : f with
        | false => rfl
        | true => exact absurd (HF.out.1 hf) HDF.out.none
      clear hrow hcn hdf hms hkp
      go_wp2
      go_ret
      exact ⟨sv1, ret_b HN.out.symm, HCN.out, HDF.out.le, HKP.out⟩
    · obtain ⟨g7, rfl, -, hlc, hB7, hg7, hcell⟩ := int_rowOf hrow (by simp)
      have c7a := hcell l.length a (by simp)
      have hlen7 : (l ++ [a]).length = l.length + 1 := by simp
      rw [hlen7] at hlc HMM ⊢
      have hal : a < ks.length := (hdf.p1 a (by simp)).1
      have hml : l.length + 1 ≤ 15000000 := by
        have := mes_len G sv1 ((so : Int) + 1) (l ++ [a])
        omega
      by_cases ha0 : a = 0
      · subst ha0
        have HN : Hid (f = true) := HF.out.2 (hdf.p1 0 (by simp)).2
        clear hrow hcn hdf hms hkp hcell
        go_wp2
        go_ret
        exact ⟨sv1, ret_b HN.out.symm, HCN.out, HDF.out.le, HKP.out⟩
      · obtain ⟨me1, md1, hobj1⟩ := hcn.obj
        obtain ⟨cur, hplc, hcells⟩ := hcn.plc
        obtain ⟨v, sx, e2, hway, hsv, e3⟩ := hcells a hal
        obtain ⟨xs, hown, hws⟩ := hway
        obtain ⟨ow, cw, rfl⟩ := owns_form hown
        have n0 := cell_of hobj1 0
        have n3 := cell_of hobj1 3
        simp only [List.getElem?_toArray, List.getElem?_cons_succ, List.getElem?_cons_zero] at n0 n3
        have p2 := (cell_of hplc (a * 4 + 2)).trans e2
        have p3 := (cell_of hplc (a * 4 + 3)).trans e3
        have fp := frozen_of hplc (a * 4 + 3)
        have hcap := hcn.cap_
        have ha1 : ¬ ((a : Int) = 0) := by omega
        by_cases hseen : sx = (so : Int) + 1
        · subst hseen
          have HSE : Hid (seenB sv1 ((so : Int) + 1) a = true) := by
            show seenB sv1 ((so : Int) + 1) a = true
            unfold seenB
            rw [hsv]
            simp
          have HNEW : Hid (COut w n g cap ks G s pl ((so : Int) + 1) (mes G sv1 ((so : Int) + 1) l) (.slice (some ⟨g7, 0, none⟩) l.length c7) wr) := ⟨l, sv1, some ⟨g7, 0, none⟩, c7, rfl, int_pop HROW.out, HCN.out, HDF.out.skip HSE.out, rfl, (by have := mes_skip G sv1 ((so : Int) + 1) l a; omega), HKP.out⟩
          have HLT : Hid (mes G sv1 ((so : Int) + 1) l < M) := by
            have h1 := mes_skip G sv1 ((so : Int) + 1) l a
            rw [HMS.out] at h1
            exact h1
          clear hrow hcn hdf hms hkp hcell hobj1 hplc hcells hown hws e2 e3 hsv fp
          go_upto_region 9 with fail
          go_region
          all_goals
            go_wp2
            go_roundw
            case rel => exact (HMU.out _ _ _ (HNEW.out.later (Below.refl _ _).drew)).1
            case measure =>
              rw [HMM.out]
              exact Nat.lt_of_le_of_lt (HMU.out _ _ _ (HNEW.out.later (Below.refl _ _).drew)).2 HLT.out
        · have HSE : Hid (seenB sv1 ((so : Int) + 1) a = false) := by
            show seenB sv1 ((so : Int) + 1) a = false
            unfold seenB
            rw [hsv]
            simpa using hseen
          have hsn : (sx == (so : Int) + 1) = false := by simpa using hseen
          have hbd : Below wr.heap.size wr wr.drew := (Below.refl _ wr).drew
          have hwl := waysOf_len G a
          obtain ⟨W3, hW3⟩ : ∃ W3, wr.drew.setCell ⟨g, a * 4 + 3, none⟩ (.int .i64 ((so : Int) + 1)) = W3 := ⟨_, rfl⟩
          have hset : ∀ b, b ≠ g → W3.heap[b]? = wr.heap[b]? := fun b hb => by rw [← hW3]; exact heap_set_other (w := wr.drew) _ hb
          have hC3 : CNet W3 n g cap ks G (sv1.set a ((so : Int) + 1)) ((so : Int) + 1) := by rw [← hW3]; exact (hcn.later hbd).mark hal _
          have hg3 : W3.heap[g]? = some (.cells (cur.set! (a * 4 + 3) (.int .i64 ((so : Int) + 1))) 100 (0, 0)) := by rw [← hW3]; exact heap_set_same (w := wr.drew) _ hplc
          have q2 : W3.cell? ⟨g, a * 4 + 2, none⟩ = some (.slice ow (waysOf G a).length cw) := by
            rw [cell_of hg3, Array.set!_eq_setIfInBounds, Array.getElem?_setIfInBounds_ne (by omega)]
            exact e2
          have hoth : ∀ (b : Nat) (c : Array Value) (t : TypeId), t ≠ 100 → wr.heap[b]? = some (.cells c t (0, 0)) → W3.heap[b]? = wr.heap[b]? := fun b c t ht hc => hset b fun e => by
            rw [e, hplc] at hc
            cases hc
            exact ht rfl
          have hway0 : WayV wr (waysOf G a) (.slice ow (waysOf G a).length cw) := ⟨xs, hown, hws⟩
          have hway3 : WayV W3 (waysOf G a) (.slice ow (waysOf G a).length cw) := hway0.keep (fun b c hc _ => hoth b c _ (by decide) hc) (fun b c hc => hoth b c _ (by decide) hc)
          have hr3 : IntRow w.heap.size W3 (.slice (some ⟨g7, 0, none⟩) l.length c7) l := owns_block (int_pop HROW.out) fun q hq => hset q (int_type HROW.out hplc (by decide) q hq)
          have hk3 : Keeps (K0 w n g) w W3 := by
            rw [← hW3]
            exact (HKP.out.trans (keeps_drw _ wr)).trans (keeps_set wr.drew g _ _ fun h => h.2.2 rfl)
          have HSTI : Hid (∃ o7' c7', Value.slice (some ⟨g7, 0, none⟩) l.length c7 = .slice o7' (l ++ outs s ((waysOf G a).take 0)).length c7' ∧ IntRow w.heap.size W3 (.slice o7' (l ++ outs s ((waysOf G a).take 0)).length c7') (l ++ outs s ((waysOf G a).take 0))) := by
            have e9 : l ++ outs s ((waysOf G a).take 0) = l := by simp [outs]
            rw [e9]
            exact ⟨_, _, rfl, hr3⟩
          have HC3 := hide hC3
          have HW3 := hide hway3
          have HK3 := hide hk3
          have hwm : (waysOf G a).length ≤ 5000000 := by omega
          have HML : Hid (l.length + 1 ≤ 15000000) := hml
          clear hrow hcn hdf hms hkp hcell hobj1 hplc hcells hown hws e2 e3 hsv hset hC3 hg3 hoth hway0 hway3 hr3 hk3 hbd
          go_upto_region 9 with fail
          go_cut [53] (fun t53 W => t53 = .bool false ∧ W = wr.drew)
          case first =>
            go_region
            all_goals
              go_wp2_with fail
              go_meet
              case rel => exact ⟨by first | rfl | rw [hsn], rfl⟩
          case rest =>
            obtain ⟨rfl, rfl⟩ := hcut
            go_wp2
            go_loopw [7, 66] (fun t7 t66 W => ∃ j o7' c7', j ≤ (waysOf G a).length ∧ t66 = .int .i64 (j : Nat) ∧ t7 = .slice o7' (l ++ outs s ((waysOf G a).take j)).length c7' ∧ IntRow w.heap.size W (.slice o7' (l ++ outs s ((waysOf G a).take j)).length c7') (l ++ outs s ((waysOf G a).take j)) ∧ CNet W n g cap ks G (sv1.set a ((so : Int) + 1)) ((so : Int) + 1) ∧ WayV W (waysOf G a) (.slice ow (waysOf G a).length cw) ∧ Keeps (K0 w n g) w W) (fun _ t66 _ => (waysOf G a).length - (intOf t66).toNat)
            case atStart =>
              obtain ⟨o7', c7', h1, h2⟩ := HSTI.out
              exact ⟨0, o7', c7', Nat.zero_le _, rfl, h1, h2, HC3.out, HW3.out, HK3.out⟩
            case round =>
              obtain ⟨j, o8, c8, hj, rfl, rfl, hrow, hcn, hway, hkp⟩ := hrel
              obtain ⟨lj, hlj0⟩ : ∃ lj, l ++ outs s ((waysOf G a).take j) = lj := ⟨_, rfl⟩
              have HLJ := hide hlj0
              have hol := outs_len s ((waysOf G a).take j)
              have hlj : lj.length ≤ 30000000 := by
                rw [List.length_take] at hol
                rw [← hlj0, List.length_append]
                omega
              rw [hlj0] at hrow ⊢
              clear hol hlj0
              have HROW8 := hide hrow
              have HCN8 := hide hcn
              have HWAY8 := hide hway
              have HKP8 := hide hkp
              by_cases hlt : j < (waysOf G a).length
              · obtain ⟨p, hpj⟩ : ∃ p, (waysOf G a)[j]? = some p := ⟨_, List.getElem?_eq_getElem hlt⟩
                obtain ⟨hpf, hps, hpl2⟩ : p.1 < ks.length ∧ Srt p.2 ∧ p.2.length ≤ 50000000 := HG.out _ (waysOf_mem.1 (List.mem_of_getElem? hpj))
                obtain ⟨xs2, hown2, hws2⟩ := hway
                obtain ⟨op, cp, x0, x1, hbind⟩ := hws2 j p hpj
                obtain ⟨gw, how, hgw0, hgw1, hgwl⟩ : ∃ gw, ow = some ⟨gw, 0, none⟩ ∧ wr.cell? ⟨gw, j * 2, none⟩ = some (.int .i64 (p.1 : Int)) ∧ wr.cell? ⟨gw, j * 2 + 1, none⟩ = some (.slice op p.2.length cp) ∧ (waysOf G a).length ≤ cw := by
                  rcases hown2.2 with ⟨-, h9⟩ | ⟨g', cap', cur', e, -, hg', hn', -, -, htk'⟩
                  · omega
                  · cases e
                    exact ⟨g', rfl, owns_cell hg' htk' (j * 2) (by omega) _ x0, owns_cell hg' htk' (j * 2 + 1) (by omega) _ x1, hn'⟩
                subst how
                have HTK : Hid ((waysOf G a).take (j + 1) = (waysOf G a).take j ++ [p]) := by
                  show (waysOf G a).take (j + 1) = _
                  rw [List.take_add_one, hpj]
                  rfl
                obtain ⟨X, hX⟩ : ∃ X, wr.alloc (.cells #[.int .i64 (p.1 : Int), .slice op p.2.length cp] 178) = X := ⟨_, rfl⟩
                have hbX : Below wr.heap.size wr X := by rw [← hX]; exact (Below.refl _ wr).alloc (Nat.le_refl _) _
                have hboxX : X.heap[wr.heap.size]? = some (.cells #[.int .i64 (p.1 : Int), .slice op p.2.length cp] 178 (0, 0)) := by rw [← hX]; exact heap_alloc_new wr _
                have b0 := cell_of hboxX 0
                have b1 := cell_of hboxX 1
                simp only [List.getElem?_toArray, List.getElem?_cons_succ, List.getElem?_cons_zero] at b0 b1
                have HSEA := hide fun f hf => search_any p.2 s op cp X (by omega) (hbind.later hbX) hps f hf
                have HCX := hide (HCN8.out.later hbX)
                have HWX : Hid (WayV X (waysOf G a) (.slice (some ⟨gw, 0, none⟩) (waysOf G a).length cw)) := HWAY8.out.keep (fun b c hc _ => hbX.block b (heap_lt hc)) (fun b c hc => hbX.block b (heap_lt hc))
                have hkX : Keeps (K0 w n g) w X := HKP8.out.trans (keeps_of hbX fun k hk => Nat.lt_of_lt_of_le hk.1 HKP8.out.size)
                have HKX := hide hkX
                have hrX : IntRow w.heap.size X (.slice o8 lj.length c8) lj := owns_block HROW8.out fun q hq => hbX.block q (owns_lt HROW8.out q hq).1
                have HRX := hide hrX
                have hlt2 : (j : Int) < ((waysOf G a).length : Int) := by omega
                have hszw : w.heap.size ≤ X.heap.size := HKX.out.size
                cases hb : hasS p.2 s
                · obtain ⟨i0, hi0, hz0, hz1, hz2⟩ := info_parts int_info
                  obtain ⟨Y, hY⟩ : ∃ Y, X.alloc (.cells #[.int .i64 (p.1 : Int)] 3) = Y := ⟨_, rfl⟩
                  have hbY : Below X.heap.size X Y := by rw [← hY]; exact (Below.refl _ X).alloc (Nat.le_refl _) _
                  have hboxY : Y.heap[X.heap.size]? = some (.cells #[.int .i64 (p.1 : Int)] 3 (0, 0)) := by rw [← hY]; exact heap_alloc_new X _
                  have hrY : Y.ownsRow w.heap.size 3 1 (.slice o8 lj.length c8) lj.length (natV lj) := owns_block hrX fun q hq => hbY.block q (owns_lt hrX q hq).1
                  obtain ⟨v4, w4, hr4, hown4, hgr4, hbk4⟩ := app_run (P := Tryz.prog) Tryz.underlying151 hi0 hz0 hz1 hz2 rfl (by decide) (by decide) hrY (Nat.le_trans hszw hbY.size) (some ⟨X.heap.size, 0, none⟩) 1 1 [.int .i64 (p.1 : Int)] rfl (fun _ => ⟨X.heap.size, 0, rfl, fun q u hu => by
                    rw [Nat.zero_add, cell_of hboxY, List.getElem?_toArray]
                    exact hu⟩) (fun u hu => by
                    rw [List.mem_singleton] at hu
                    rw [hu]
                    rfl) (by omega) 151
                  obtain ⟨o4, c4, hv4⟩ := owns_form hown4
                  subst hv4
                  have HR4 := hide hr4
                  have hty : ∀ (b : Nat) (c : Array Value) (t : TypeId), t ≠ 3 → Y.heap[b]? = some (.cells c t (0, 0)) → w4.heap[b]? = Y.heap[b]? := fun b c t ht hc => hgr4.block b (heap_lt hc) fun e => int_type (B := w.heap.size) (l := lj) hrY hc ht b e.symm rfl
                  have HFIN : Hid (∃ o7' c7', Value.slice o4 (lj.length + 1) c4 = .slice o7' (l ++ outs s ((waysOf G a).take (j + 1))).length c7' ∧ IntRow w.heap.size w4 (.slice o7' (l ++ outs s ((waysOf G a).take (j + 1))).length c7') (l ++ outs s ((waysOf G a).take (j + 1)))) := by
                    have e9 : l ++ outs s ((waysOf G a).take (j + 1)) = lj ++ [p.1] := by
                      rw [HTK.out, outs_snoc, hb, ← List.append_assoc, HLJ.out]
                      rfl
                    rw [e9]
                    refine ⟨o4, c4, by rw [List.length_append, List.length_singleton], ?_⟩
                    show w4.ownsRow w.heap.size 3 1 _ (lj ++ [p.1]).length (natV (lj ++ [p.1]))
                    have e8 : natV (lj ++ [p.1]) = natV lj ++ [.int .i64 (p.1 : Int)] := by unfold natV; rw [List.map_append]; rfl
                    rw [e8, List.length_append, List.length_singleton]
                    exact hown4
                  have HC4 : Hid (CNet w4 n g cap ks G (sv1.set a ((so : Int) + 1)) ((so : Int) + 1)) := (HCX.out.later hbY).keep hty
                  have HW4 : Hid (WayV w4 (waysOf G a) (.slice (some ⟨gw, 0, none⟩) (waysOf G a).length cw)) := (HWX.out.keep (fun b c hc _ => hbY.block b (heap_lt hc)) (fun b c hc => hbY.block b (heap_lt hc))).keep (fun b c hc _ => hty b c _ (by decide) hc) (fun b c hc => hty b c _ (by decide) hc)
                  have HK4 : Hid (Keeps (K0 w n g) w w4) := by
                    have e1 : Keeps (K0 w n g) X Y := keeps_of hbY fun k hk => Nat.lt_of_lt_of_le hk.1 hszw
                    have e2 : Keeps (K0 w n g) Y w4 := keeps_grown hgr4 (fun k hk => by have := hk.1; have := hbY.size; omega) fun k hk hK => by
                      have := (owns_lt hrY k hk).2
                      have := hK.1
                      omega
                    exact (HKX.out.trans e1).trans e2
                  have HBF : Hid (false = true ↔ s ∈ p.2) := ⟨fun h => (by cases h), fun h => (by rw [hasS_mem.2 h] at hb; cases hb)⟩
                  clear hrow hcn hkp hown2 hws2 x0 x1 hbind hpf hps hpl2 hpj hbX hboxX hkX hrX hi0 hz0 hz1 hz2 hbY hboxY hrY hr4 hown4 hgr4 hbk4 hty hb
                  go_wp2_with fail
                  refine Calls.mono (HSEA.out false HBF.out) ?_
                  rintro e w5 ⟨vi, rfl, rfl⟩
                  go_wp2_with (at_builtin; refine Lib.wpList_append_run _ rfl _ _ _ _ rfl _ _ rfl rfl _ _ HR4.out ?_)
                  go_roundw
                  case rel =>
                    obtain ⟨o7', c7', h1, h2⟩ := HFIN.out
                    exact ⟨j + 1, o7', c7', by omega, by go_num, h1, h2, HC4.out, HW4.out, HK4.out⟩
                  case measure => simp [intOf]; omega
                · have HFIN : Hid (l ++ outs s ((waysOf G a).take (j + 1)) = lj) := by
                    show l ++ outs s ((waysOf G a).take (j + 1)) = _
                    rw [HTK.out, outs_snoc, hb, ← List.append_assoc, HLJ.out]
                    simp
                  have HBF : Hid (s ∈ p.2) := hasS_mem.1 hb
                  clear hrow hcn hkp hown2 hws2 x0 x1 hbind hpf hps hpl2 hpj hbX hboxX hkX hrX hb
                  go_wp2_with fail
                  refine Calls.mono (HSEA.out true ⟨fun _ => HBF.out, fun _ => rfl⟩) ?_
                  rintro e w5 ⟨vi, rfl, rfl⟩
                  go_wp2
                  go_roundw
                  case rel => exact ⟨j + 1, o8, c8, by omega, by go_num, by rw [HFIN.out], by rw [HFIN.out]; exact HRX.out, HCX.out, HWX.out, HKX.out⟩
                  case measure => simp [intOf]; omega
              · have hje : j = (waysOf G a).length := by omega
                subst hje
                have HNEW : Hid (COut w n g cap ks G s pl ((so : Int) + 1) (mes G (sv1.set a ((so : Int) + 1)) ((so : Int) + 1) (l ++ outs s (waysOf G a))) (.slice o8 lj.length c8) wr) := by
                  have h9 := HROW8.out
                  have hl9 := HLJ.out
                  rw [List.take_length] at hl9
                  rw [← hl9] at h9 ⊢
                  refine ⟨_, _, o8, c8, rfl, h9, HCN8.out, HDF.out.mark ha0 (fun q hq => (HG.out q hq).1), rfl, ?_, HKP8.out⟩
                  have h8 := mes_mark (G := G) (s := s) (l := l) (by rw [HDF.out.len]; exact hal) HSE.out
                  rw [HMS.out] at h8
                  omega
                have HLT : Hid (mes G (sv1.set a ((so : Int) + 1)) ((so : Int) + 1) (l ++ outs s (waysOf G a)) < M) := by
                  have h8 := mes_mark (G := G) (s := s) (l := l) (by rw [HDF.out.len]; exact hal) HSE.out
                  rw [HMS.out] at h8
                  exact h8
                clear hrow hcn hway hkp
                go_wp2
                go_roundw
                case rel => exact (HMU.out _ _ _ HNEW.out).1
                case measure =>
                  rw [HMM.out]
                  exact Nat.lt_of_le_of_lt (HMU.out _ _ _ HNEW.out).2 HLT.out
end Go.Proofs.YtlaeenfeajkcfalGreat.Fr

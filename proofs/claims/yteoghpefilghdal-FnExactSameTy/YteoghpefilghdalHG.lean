/- What the program holds of two trees: three rows of pairs with their maps, in one block. -/
import Derived.Test.YteoghpefilghdalME
namespace Go.Proofs.Yteoghpefilghdal
open Go.RowKit

def Own (v : Value) (mo : Option Nat) (k : Nat) : Prop := v.ownBlock = some k ∨ mo = some k
def upd {α : Type} (f : Nat → α) (i : Nat) (x : α) : Nat → α := fun j => if j = i then x else f j
theorem upd_at {α : Type} (f : Nat → α) (i : Nat) (x : α) : upd f i x i = x := if_pos rfl
theorem upd_other {α : Type} (f : Nat → α) {i j : Nat} (x : α) (h : j ≠ i) : upd f i x j = f j := if_neg h
structure HeldIn (T : Nat → TypeId) (w : World) (K : Nat → Prop) (g : Nat) (c : Array Value) (v : Nat → Value) (mo : Nat → Option Nat) (ls ks : Nat → List (Addr × Addr)) : Prop where
  rows : ∀ i, i < 4 → c[2 * i]? = some (v i)
  maps : ∀ i, i < 4 → c[2 * i + 1]? = some (.map (mo i))
  mem : ∀ i, i < 4 → PairsMem (T i) w K g (v i) (mo i) (ls i) (ks i)
  apart : ∀ i j, i < 4 → j < 4 → i ≠ j → ∀ k, Own (v i) (mo i) k → ¬ Own (v j) (mo j) k
def HeldMem (T : Nat → TypeId) (w : World) (K : Nat → Prop) (g : Nat) (ls ks : Nat → List (Addr × Addr)) : Prop :=
  ∃ c e v mo, w.heap[g]? = some (.cells c e (0, 0)) ∧ HeldIn T w K g c v mo ls ks
theorem PairsMem.own_lt {T : TypeId} {w : World} {K : Nat → Prop} {g : Nat} {vl : Value} {mo : Option Nat} {ls ks : List (Addr × Addr)} (h : PairsMem T w K g vl mo ls ks) {k : Nat} (hk : Own vl mo k) : k < w.heap.size ∧ k ≠ g ∧ ¬ K k := by
  rcases hk with hk | hk
  · exact ⟨(owns_lt h.row k hk).1, fun e => h.rg (e ▸ hk), h.kr k hk⟩
  · exact ⟨h.mlt k hk, fun e => h.mg (e ▸ hk), h.km k hk⟩
theorem HeldMem.at {T : Nat → TypeId} {w : World} {K : Nat → Prop} {g : Nat} {ls ks : Nat → List (Addr × Addr)} (h : HeldMem T w K g ls ks) (i : Nat) (hi : i < 4) :
    ∃ c e vl mo Kx, w.heap[g]? = some (.cells c e (0, 0)) ∧ c[2 * i]? = some vl ∧ c[2 * i + 1]? = some (.map mo) ∧ PairsMem (T i) w Kx g vl mo (ls i) (ks i) ∧ (∀ k, K k → Kx k) ∧
      ∀ w' ls' ks', PairsNow (T i) w w' Kx g (2 * i) c e ls' ks' → (∀ l ∈ ks', K l.1.block ∧ K l.2.block) → HeldMem T w' K g (upd ls i ls') (upd ks i ks') ∧ Keeps K w w' := by
  obtain ⟨c, e, v, mo, hg, H⟩ := h
  have hmi := H.mem i hi
  refine ⟨c, e, v i, mo i, fun k => K k ∨ ∃ j, j < 4 ∧ j ≠ i ∧ Own (v j) (mo j) k, hg, H.rows i hi, H.maps i hi, ?_, fun k hk => Or.inl hk, ?_⟩
  · refine hmi.more ?_ ?_ ?_ ?_ fun k hk => Or.inl hk
    · rintro k (hk | ⟨j, hj, -, hk⟩)
      · exact hmi.kw k hk
      · exact ((H.mem j hj).own_lt hk).1
    · rintro (hk | ⟨j, hj, -, hk⟩)
      · exact hmi.kg hk
      · exact ((H.mem j hj).own_lt hk).2.1 rfl
    · rintro k hk (h3 | ⟨j, hj, hne, h3⟩)
      · exact hmi.kr k hk h3
      · exact H.apart i j hi hj (Ne.symm hne) k (Or.inl hk) h3
    · rintro k hk (h3 | ⟨j, hj, hne, h3⟩)
      · exact hmi.km k hk h3
      · exact H.apart i j hi hj (Ne.symm hne) k (Or.inr hk) h3
  · rintro w' ls' ks' ⟨c', vl', mo', h1, h2, h3, h4, h5, h6⟩ hks
    have hK : Keeps K w w' := h6.mono fun k hk => Or.inl hk
    have hnew : ∀ j, j < 4 → j ≠ i → ∀ k, Own vl' mo' k → ¬ Own (v j) (mo j) k := fun j hj hne k hk h => (h5.own_lt hk).2.2 (Or.inr ⟨j, hj, hne, h⟩)
    refine ⟨⟨c', e, upd v i vl', upd mo i mo', h1, ⟨fun j hj => ?_, fun j hj => ?_, fun j hj => ?_, fun a b ha hb hne k hk => ?_⟩⟩, hK⟩
    · by_cases e : j = i
      · subst e
        rw [upd_at]
        exact h2
      · rw [upd_other _ _ e, h4 _ (by omega) (by omega)]
        exact H.rows j hj
    · by_cases e : j = i
      · subst e
        rw [upd_at]
        exact h3
      · rw [upd_other _ _ e, h4 _ (by omega) (by omega)]
        exact H.maps j hj
    · by_cases e : j = i
      · subst e
        rw [upd_at, upd_at, upd_at, upd_at]
        exact h5.less (fun k hk => Or.inl hk) hks
      · rw [upd_other _ _ e, upd_other _ _ e, upd_other _ _ e, upd_other _ _ e]
        have hm := H.mem j hj
        have hbl : ∀ k, Own (v j) (mo j) k → w'.heap[k]? = w.heap[k]? := fun k hk => h6.block k (Or.inr ⟨j, hj, e, hk⟩)
        refine ⟨owns_block hm.row fun k hk => hbl k (Or.inl hk), ?_, hm.rg, hm.mg, hm.rm, hm.kg, hm.kr, hm.km, fun k hk => Nat.lt_of_lt_of_le (hm.kw k hk) h6.size, Nat.lt_of_lt_of_le hm.gw h6.size, fun l hl => ?_⟩
        · rcases hm.map with e | ⟨m2, es, cl, e2, hm2, hk2⟩
          · exact Or.inl e
          · exact Or.inr ⟨m2, es, cl, e2, (hbl m2 (Or.inr e2)).trans hm2, hk2⟩
        · obtain ⟨⟨p1, p2⟩, p3, p4⟩ := hm.keys l hl
          exact ⟨⟨p1, p2.block (hK.block _ p1)⟩, p3, p4.block (hK.block _ p3)⟩
    · by_cases ea : a = i
      · have eb : b ≠ i := fun e => hne (ea.trans e.symm)
        rw [ea, upd_at, upd_at] at hk
        rw [upd_other _ _ eb, upd_other _ _ eb]
        exact hnew b hb eb k hk
      · rw [upd_other _ _ ea, upd_other _ _ ea] at hk
        by_cases eb : b = i
        · rw [eb, upd_at, upd_at]
          exact fun h => hnew a ha ea k h hk
        · rw [upd_other _ _ eb, upd_other _ _ eb]
          exact H.apart a b ha hb hne k hk
theorem HeldMem.later {T : Nat → TypeId} {w w' : World} {K : Nat → Prop} {g : Nat} {ls ks : Nat → List (Addr × Addr)} (h : HeldMem T w K g ls ks) (hb : Below w.heap.size w w') : HeldMem T w' K g ls ks := by
  obtain ⟨c, e, v, mo, hg, H⟩ := h
  exact ⟨c, e, v, mo, (hb.block g (H.mem 0 (by omega)).gw).trans hg, ⟨H.rows, H.maps, fun i hi => (H.mem i hi).later hb, H.apart⟩⟩
theorem adds_sub (ks p : List (Addr × Addr)) : ∀ l ∈ adds ks p, l ∈ p := by
  induction p generalizing ks with
  | nil => intro l hl; cases hl
  | cons x r ih =>
    intro l hl
    rw [adds, List.mem_append] at hl
    rcases hl with hl | hl
    · unfold newOf at hl
      split at hl
      · cases hl
      · exact List.mem_cons.2 (Or.inl (List.mem_singleton.1 hl))
    · exact List.mem_cons_of_mem _ (ih _ l hl)
theorem places_in {ba pa bb pb sz n : Nat} {l : Addr × Addr} (h : l ∈ places ba pa bb pb sz n) : l.1.block = ba ∧ l.2.block = bb := by
  unfold places at h
  obtain ⟨i, -, rfl⟩ := List.mem_map.1 h
  exact ⟨rfl, rfl⟩
end Go.Proofs.Yteoghpefilghdal

/- Two trees held against each other by pairs of places: what is left, what is done, and why it ends. -/
import Derived.Test.YteoghpefilghdalHO
import Derived.Test.YteoghpefilghdalPQ
namespace Go.Proofs.Yteoghpefilghdal
open Go.RowKit

/-- The four kinds by number. -/
def rd4 (K : Nat → Prop) (W : World) (h i : Nat) : Tr → List Value → Prop := if i = 0 then (reads K W h).ex else if i = 1 then (reads K W h).de else if i = 2 then (reads K W h).al else tyR K W h
/-- Of which kind its first parts are. -/
def kidK (i : Nat) : Nat := if i = 3 then 3 else 0
def szK (i : Nat) : Nat := if i = 0 then 6 else if i = 1 then 9 else if i = 2 then 8 else 4
/-- At a place a tree can be read, up to a height. -/
def AtH (W : World) (K : Nat → Prop) (i h : Nat) (x : Addr) (t : Tr) : Prop := x.spot = none ∧ K x.block ∧ ∃ cs, cs.length = szK i ∧ CellsAt W x cs ∧ rd4 K W h i t cs
theorem cells_fun {W : World} {x : Addr} {cs ds : List Value} (h1 : CellsAt W x cs) (h2 : CellsAt W x ds) (hl : cs.length = ds.length) : cs = ds := by
  apply List.ext_getElem hl
  intro j ja jb
  have a1 := h1 j cs[j] (List.getElem?_eq_getElem ja)
  have a2 := h2 j ds[j] (List.getElem?_eq_getElem jb)
  rw [a1] at a2
  exact Option.some.inj a2
theorem at_fun {W : World} {K : Nat → Prop} {i h h' : Nat} {x : Addr} {t u : Tr} (a : AtH W K i h x t) (b : AtH W K i h' x u) : t = u := by
  obtain ⟨-, -, cs, l1, c1, r1⟩ := a
  obtain ⟨-, -, ds, l2, c2, r2⟩ := b
  have e := cells_fun c1 c2 (l1.trans l2.symm)
  subst e
  unfold rd4 at r1 r2
  split at r1
  · exact (reads_fun h h').1 _ _ _ r1 (by rename_i e; rw [if_pos e] at r2; exact r2)
  · rename_i e
    rw [if_neg e] at r2
    split at r1
    · exact (reads_fun h h').2.1 _ _ _ r1 (by rename_i e; rw [if_pos e] at r2; exact r2)
    · rename_i e
      rw [if_neg e] at r2
      split at r1
      · exact (reads_fun h h').2.2 _ _ _ r1 (by rename_i e; rw [if_pos e] at r2; exact r2)
      · rename_i e
        rw [if_neg e] at r2
        exact tyR_fun h h' _ _ _ r1 r2
def ndh : Nat → Tr → Nat
  | 0, _ => 0
  | h + 1, t => 1 + (t.l.map (ndh h)).sum + (t.ds.map (ndh h)).sum + (t.al.map (ndh h)).sum

section
variable (W : World) (K : Nat → Prop) (F : Prop)
/-- What is left, and how much it weighs at most. -/
def WtL (i : Nat) : List (Addr × Addr) → Nat → Prop
  | [], _ => True
  | p :: l, n => ∃ h t h' u m, AtH W K i h p.1 t ∧ AtH W K i h' p.2 u ∧ (F → t = u) ∧ ndh h t + m ≤ n ∧ WtL i l m
def Kids (ks : Nat → List (Addr × Addr)) (j : Nat) (l m : List Tr) : Prop := ∀ (k : Nat) (a b : Tr), l[k]? = some a → m[k]? = some b → ∃ q : Addr × Addr, (∃ h, AtH W K j h q.1 a) ∧ (∃ h, AtH W K j h q.2 b) ∧ (q.1 = q.2 ∨ q ∈ ks j)
def Done (ks : Nat → List (Addr × Addr)) (i : Nat) (p : Addr × Addr) : Prop := ∃ t u, (∃ h, AtH W K i h p.1 t) ∧ (∃ h, AtH W K i h p.2 u) ∧ (t.k = u.k ∧ t.s = u.s ∧ t.n = u.n ∧ t.ss = u.ss) ∧ (t.l.length = u.l.length ∧ t.ds.length = u.ds.length ∧ t.al.length = u.al.length) ∧
  Kids W K ks (kidK i) t.l u.l ∧ Kids W K ks 1 t.ds u.ds ∧ Kids W K ks 2 t.al u.al
structure Good (ls ks : Nat → List (Addr × Addr)) (n : Nat) : Prop where
  wt : ∃ n0 n1 n2 n3, WtL W K F 0 (ls 0) n0 ∧ WtL W K F 1 (ls 1) n1 ∧ WtL W K F 2 (ls 2) n2 ∧ WtL W K F 3 (ls 3) n3 ∧ n0 + n1 + n2 + n3 ≤ n
  done : ∀ i, i < 4 → ∀ p ∈ ks i, p ∈ ls i ∨ Done W K ks i p
end
section
variable {W : World} {K : Nat → Prop} {F : Prop}
theorem WtL.mono {i : Nat} {l : List (Addr × Addr)} {n m : Nat} (h : WtL W K F i l n) (hn : n ≤ m) : WtL W K F i l m := by
  cases l with
  | nil => trivial
  | cons p l =>
    obtain ⟨a, t, b, u, k, h1, h2, h3, h4, h5⟩ := h
    exact ⟨a, t, b, u, k, h1, h2, h3, by omega, h5⟩
theorem WtL.join {i : Nat} {l r : List (Addr × Addr)} {n m : Nat} (h : WtL W K F i l n) (k : WtL W K F i r m) : WtL W K F i (l ++ r) (n + m) := by
  induction l generalizing n with
  | nil => exact k.mono (by omega)
  | cons p l ih =>
    obtain ⟨a, t, b, u, q, h1, h2, h3, h4, h5⟩ := h
    exact ⟨a, t, b, u, q + m, h1, h2, h3, by omega, ih h5⟩
theorem WtL.split {i : Nat} {l r : List (Addr × Addr)} {n : Nat} (h : WtL W K F i (l ++ r) n) : ∃ a b, WtL W K F i l a ∧ WtL W K F i r b ∧ a + b ≤ n := by
  induction l generalizing n with
  | nil => exact ⟨0, n, trivial, h, by omega⟩
  | cons p l ih =>
    obtain ⟨a, t, b, u, q, h1, h2, h3, h4, h5⟩ := h
    obtain ⟨x, y, e1, e2, e3⟩ := ih h5
    exact ⟨ndh a t + x, y, ⟨a, t, b, u, x, h1, h2, h3, Nat.le_refl _, e1⟩, e2, by omega⟩
theorem WtL.len {i : Nat} {l : List (Addr × Addr)} {n : Nat} (h : WtL W K F i l n) : l.length ≤ n := by
  induction l generalizing n with
  | nil => exact Nat.zero_le _
  | cons p l ih =>
    obtain ⟨a, t, b, u, q, ⟨-, -, cs, -, -, hr⟩, h2, h3, h4, h5⟩ := h
    have h6 := ih h5
    have h7 : 1 ≤ ndh a t := by
      cases a with
      | zero =>
        unfold rd4 at hr
        split at hr
        · exact hr.elim
        · split at hr
          · exact hr.elim
          · split at hr <;> exact hr.elim
      | succ a =>
        show 1 ≤ 1 + (t.l.map (ndh a)).sum + (t.ds.map (ndh a)).sum + (t.al.map (ndh a)).sum
        omega
    rw [List.length_cons]
    omega
theorem WtL.newOf {i : Nat} {p : Addr × Addr} {n : Nat} (ks : List (Addr × Addr)) (h : WtL W K F i [p] n) : WtL W K F i (newOf ks p) n := by
  unfold Go.Proofs.Yteoghpefilghdal.newOf
  split
  · trivial
  · exact h
theorem WtL.adds {i : Nat} {l : List (Addr × Addr)} {n : Nat} (ks : List (Addr × Addr)) (h : WtL W K F i l n) : WtL W K F i (adds ks l) n := by
  induction l generalizing n ks with
  | nil => trivial
  | cons p l ih =>
    obtain ⟨a, t, b, u, q, h1, h2, h3, h4, h5⟩ := h
    have e1 : WtL W K F i [p] (ndh a t) := ⟨a, t, b, u, 0, h1, h2, h3, by omega, trivial⟩
    exact ((e1.newOf ks).join (ih (ks ++ Go.Proofs.Yteoghpefilghdal.newOf ks p) h5)).mono h4
theorem Kids.more {ks ks' : Nat → List (Addr × Addr)} {j : Nat} {l m : List Tr} (h : Kids W K ks j l m) (hk : ∀ p ∈ ks j, p ∈ ks' j) : Kids W K ks' j l m := by
  intro k a b ha hb
  obtain ⟨q, h1, h2, h3⟩ := h k a b ha hb
  exact ⟨q, h1, h2, h3.imp id (hk q)⟩
theorem Done.more {ks ks' : Nat → List (Addr × Addr)} {i : Nat} {p : Addr × Addr} (h : Done W K ks i p) (hk : ∀ j, j < 4 → ∀ p ∈ ks j, p ∈ ks' j) : Done W K ks' i p := by
  obtain ⟨t, u, h1, h2, h3, h4, k1, k2, k3⟩ := h
  exact ⟨t, u, h1, h2, h3, h4, k1.more (hk (kidK i) (by unfold kidK; split <;> omega)), k2.more (hk 1 (by omega)), k3.more (hk 2 (by omega))⟩
/-- One pair is taken away and looked at: what it puts behind it. -/
structure Puts (ls ks ls' ks' : Nat → List (Addr × Addr)) (i : Nat) (p : Addr × Addr) (n : Nat) : Prop where
  new : ∃ a : Nat → List (Addr × Addr), (∀ j, j < 4 → ls' j = ls j ++ a j ∧ ks' j = ks j ++ a j) ∧ ∃ n0 n1 n2 n3, WtL W K F 0 (a 0) n0 ∧ WtL W K F 1 (a 1) n1 ∧ WtL W K F 2 (a 2) n2 ∧ WtL W K F 3 (a 3) n3 ∧ n0 + n1 + n2 + n3 ≤ n
  done : Done W K ks' i p
theorem Good.next {ls ls0 ks ls' ks' : Nat → List (Addr × Addr)} {i : Nat} {p : Addr × Addr} {n m : Nat} (h : Good W K F ls ks n) (he : ls i = ls0 i ++ [p]) (ho : ∀ j, j ≠ i → ls0 j = ls j)
    (k : Puts (W := W) (K := K) (F := F) ls0 ks ls' ks' i p m) (hw : ∃ n0 n1 n2 n3, WtL W K F 0 (ls0 0) n0 ∧ WtL W K F 1 (ls0 1) n1 ∧ WtL W K F 2 (ls0 2) n2 ∧ WtL W K F 3 (ls0 3) n3 ∧ n0 + n1 + n2 + n3 + m + 1 ≤ n) : ∃ n', Good W K F ls' ks' n' ∧ n' < n := by
  obtain ⟨⟨a, ha, m0, m1, m2, m3, w0, w1, w2, w3, hs⟩, hd⟩ := k
  obtain ⟨n0, n1, n2, n3, v0, v1, v2, v3, hv⟩ := hw
  refine ⟨n0 + n1 + n2 + n3 + m, ⟨⟨n0 + m0, n1 + m1, n2 + m2, n3 + m3, ?_, ?_, ?_, ?_, by omega⟩, ?_⟩, by omega⟩
  · rw [(ha 0 (by omega)).1]; exact v0.join w0
  · rw [(ha 1 (by omega)).1]; exact v1.join w1
  · rw [(ha 2 (by omega)).1]; exact v2.join w2
  · rw [(ha 3 (by omega)).1]; exact v3.join w3
  · intro j hj q hq
    have hmore : ∀ j, j < 4 → ∀ p ∈ ks j, p ∈ ks' j := fun j hj p hp => by rw [(ha j hj).2]; exact List.mem_append_left _ hp
    rw [(ha j hj).2] at hq
    rw [(ha j hj).1]
    rcases List.mem_append.1 hq with hq | hq
    · rcases h.done j hj q hq with h1 | h1
      · by_cases hji : j = i
        · subst hji
          rw [he] at h1
          rcases List.mem_append.1 h1 with h2 | h2
          · exact .inl (List.mem_append_left _ h2)
          · rw [List.mem_singleton] at h2
            subst h2
            exact .inr hd
        · exact .inl (List.mem_append_left _ (by rw [ho j hji]; exact h1))
      · exact .inr (h1.more hmore)
    · exact .inl (List.mem_append_right _ hq)
theorem size_l {t a : Tr} (h : a ∈ t.l) : SizeOf.sizeOf a < SizeOf.sizeOf t := by
  have h1 := List.sizeOf_lt_of_mem h
  cases t
  simp only [Tr.mk.sizeOf_spec]
  simp only at h1
  omega
theorem size_ds {t a : Tr} (h : a ∈ t.ds) : SizeOf.sizeOf a < SizeOf.sizeOf t := by
  have h1 := List.sizeOf_lt_of_mem h
  cases t
  simp only [Tr.mk.sizeOf_spec]
  simp only at h1
  omega
theorem size_al {t a : Tr} (h : a ∈ t.al) : SizeOf.sizeOf a < SizeOf.sizeOf t := by
  have h1 := List.sizeOf_lt_of_mem h
  cases t
  simp only [Tr.mk.sizeOf_spec]
  simp only at h1
  omega
/-- When nothing is left, what was put is the same. -/
theorem all_same {ks : Nat → List (Addr × Addr)} (h : ∀ i, i < 4 → ∀ p ∈ ks i, Done W K ks i p) : ∀ (n i : Nat), i < 4 → ∀ p ∈ ks i, ∀ (h1 h2 : Nat) (t u : Tr), SizeOf.sizeOf t ≤ n → AtH W K i h1 p.1 t → AtH W K i h2 p.2 u → t = u := by
  intro n
  induction n with
  | zero =>
    intro i _ p _ h1 h2 t u hs
    cases t
    simp only [Tr.mk.sizeOf_spec] at hs
    omega
  | succ n ih =>
    intro i hi p hp h1 h2 t u hs a1 a2
    obtain ⟨t', u', ⟨g1, b1⟩, ⟨g2, b2⟩, ⟨e1, e2, e3, e4⟩, ⟨l1, l2, l3⟩, k1, k2, k3⟩ := h i hi p hp
    have et := at_fun a1 b1
    have eu := at_fun a2 b2
    subst et eu
    have key : ∀ (j : Nat), j < 4 → ∀ (l m : List Tr), l.length = m.length → Kids W K ks j l m → (∀ a ∈ l, SizeOf.sizeOf a ≤ n) → l = m := by
      intro j hj l m hl hk hz
      apply List.ext_getElem hl
      intro k ka kb
      obtain ⟨q, ⟨c1, d1⟩, ⟨c2, d2⟩, hq⟩ := hk k _ _ (List.getElem?_eq_getElem ka) (List.getElem?_eq_getElem kb)
      rcases hq with hq | hq
      · rw [← hq] at d2
        exact at_fun d1 d2
      · exact ih j hj q hq _ _ _ _ (hz _ (List.getElem_mem ka)) d1 d2
    refine tr_ext e1 e2 e3 e4 (key (kidK i) (by unfold kidK; split <;> omega) _ _ l1 k1 fun a ha => ?_) (key 1 (by omega) _ _ l2 k2 fun a ha => ?_) (key 2 (by omega) _ _ l3 k3 fun a ha => ?_)
    · have := size_l ha; omega
    · have := size_ds ha; omega
    · have := size_al ha; omega
end
/-- Of what holds of a number and a world: the least such number. -/
theorem least_of (G : Nat → World → Prop) : ∃ mu : World → Nat, ∀ w m, G m w → G (mu w) w ∧ mu w ≤ m := by
  have h : ∀ w, ∃ n, ∀ m, G m w → G n w ∧ n ≤ m := by
    intro w
    by_cases he : ∃ m, G m w
    · obtain ⟨m, hm⟩ := he
      induction m using Nat.strongRecOn with
      | ind m ih =>
        by_cases hl : ∃ k, k < m ∧ G k w
        · obtain ⟨k, hk, hg⟩ := hl
          exact ih k hk hg
        · refine ⟨m, fun k hk => ⟨hm, ?_⟩⟩
          rcases Nat.lt_or_ge k m with h1 | h1
          · exact absurd ⟨k, h1, hk⟩ hl
          · exact h1
    · exact ⟨0, fun m hm => absurd ⟨m, hm⟩ he⟩
  obtain ⟨f, hf⟩ := Classical.axiomOfChoice h
  exact ⟨f, fun w m hm => hf w m hm⟩
end Go.Proofs.Yteoghpefilghdal

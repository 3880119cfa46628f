/- Layers, plainly: what is left, why it ends, and how many have been seen. -/
import Derived.Test.YtegcebeaelpjhajNG
namespace Go.Proofs.Ytegcebeaelpjhaj
open Go.RowKit

theorem wsum_le {f g : Addr → Nat} : ∀ {l : List (Addr × Nat)}, (∀ p ∈ l, f p.1 ≤ g p.1) → wsum f l ≤ wsum g l := by
  intro l
  induction l with
  | nil => intro _; exact Nat.le_refl _
  | cons p r ih =>
    intro h
    have h1 := ih fun q hq => h q (List.mem_cons_of_mem _ hq)
    have h2 : p.2 * f p.1 ≤ p.2 * g p.1 := Nat.mul_le_mul_left _ (h p (List.mem_cons_self ..))
    show p.2 * f p.1 + wsum f r ≤ p.2 * g p.1 + wsum g r
    omega
theorem wsum_congr {f g : Addr → Nat} {l : List (Addr × Nat)} (h : ∀ p ∈ l, f p.1 = g p.1) : wsum f l = wsum g l :=
  Nat.le_antisymm (wsum_le fun p hp => Nat.le_of_eq (h p hp)) (wsum_le fun p hp => Nat.le_of_eq (h p hp).symm)
theorem wsum_plus (f g : Addr → Nat) : ∀ l : List (Addr × Nat), wsum (fun a => f a + g a) l = wsum f l + wsum g l := by
  intro l
  induction l with
  | nil => rfl
  | cons p r ih =>
    show p.2 * (f p.1 + g p.1) + wsum (fun a => f a + g a) r = (p.2 * f p.1 + wsum f r) + (p.2 * g p.1 + wsum g r)
    rw [ih, Nat.mul_add]
    omega
theorem wsum_kids (f : Addr → Nat) (k : Addr → List Addr) : ∀ l : List (Addr × Nat), wsum f (kidsOf k l) = wsum (fun a => ((k a).map f).sum) l := by
  intro l
  induction l with
  | nil => rfl
  | cons p r ih =>
    have h1 : kidsOf k (p :: r) = times p.2 (k p.1) ++ kidsOf k r := by simp [kidsOf]
    rw [h1, wsum_app, wsum_times, ih]
    rfl
theorem len_wsum : ∀ {l : List (Addr × Nat)}, (∀ p ∈ l, 1 ≤ p.2) → l.length ≤ wsum (fun _ => 1) l := by
  intro l
  induction l with
  | nil => intro _; exact Nat.le_refl _
  | cons p r ih =>
    intro h
    have h1 := ih fun q hq => h q (List.mem_cons_of_mem _ hq)
    have h2 := h p (List.mem_cons_self ..)
    show r.length + 1 ≤ p.2 * 1 + wsum (fun _ => 1) r
    omega
theorem nodup_len {α : Type} [DecidableEq α] : ∀ (c l : List α), c.Nodup → (∀ x ∈ c, x ∈ l) → c.length ≤ l.length := by
  intro c
  induction c with
  | nil => intro l _ _; exact Nat.zero_le _
  | cons x c ih =>
    intro l hn hs
    obtain ⟨h1, h2⟩ := List.nodup_cons.1 hn
    have h3 := hs x (List.mem_cons_self ..)
    have h4 := ih (l.erase x) h2 fun y hy => (List.mem_erase_of_ne (fun (e : y = x) => h1 (by rw [← e]; exact hy))).2 (hs y (List.mem_cons_of_mem _ hy))
    rw [List.length_erase_of_mem h3] at h4
    have h5 : 0 < l.length := List.length_pos_of_mem h3
    rw [List.length_cons]
    omega
theorem sum_mem {f : Addr → Nat} {l : List Addr} {x : Addr} (h : x ∈ l) : f x ≤ (l.map f).sum := by
  induction l with
  | nil => cases h
  | cons y r ih =>
    rw [List.map_cons, List.sum_cons]
    rcases List.mem_cons.1 h with rfl | h
    · omega
    · have := ih h
      omega
theorem sum_le2 {f g : Addr → Nat} {l : List Addr} (h : ∀ x ∈ l, f x ≤ g x) : (l.map f).sum ≤ (l.map g).sum := by
  induction l with
  | nil => exact Nat.le_refl _
  | cons y r ih =>
    rw [List.map_cons, List.sum_cons, List.map_cons, List.sum_cons]
    have h1 := ih fun x hx => h x (List.mem_cons_of_mem _ hx)
    have h2 := h y (List.mem_cons_self ..)
    omega
theorem sum_two {g : Addr → Nat} {l : List Addr} : (l.map fun x => 2 * g x).sum = 2 * (l.map g).sum := by
  induction l with
  | nil => rfl
  | cons y r ih =>
    rw [List.map_cons, List.sum_cons, List.map_cons, List.sum_cons, ih]
    omega
/-- What a place weighs: less than what it stands in. -/
def mm (cE cD : Addr → Nat) (e : Bool) (a : Addr) : Nat := if e then 2 * cE a - 1 else 2 * cD a
section
variable {W : World} {K : Nat → Prop} {cE cD : Addr → Nat}
theorem mm_e (cE cD : Addr → Nat) (a : Addr) : mm cE cD true a = 2 * cE a - 1 := rfl
theorem mm_d (cE cD : Addr → Nat) (a : Addr) : mm cE cD false a = 2 * cD a := rfl
theorem mm_kidsE (hc : Cnts W K cE cD) {h : Nat} {a : Addr} {t : Tr} (hA : AtE W K h a t) : ((kEE W a).map (mm cE cD true)).sum + ((kED W a).map (mm cE cD false)).sum + 1 ≤ mm cE cD true a := by
  have h1 := cE_kids hc hA
  have e1 : ((kEE W a).map (mm cE cD true)).sum ≤ 2 * ((kEE W a).map (cE)).sum := by
    rw [← sum_two]
    exact sum_le2 fun x _ => by rw [mm_e]; omega
  have e2 : ((kED W a).map (mm cE cD false)).sum = 2 * ((kED W a).map (cD)).sum := sum_two
  rw [mm_e, h1]
  omega
theorem mm_kidsD (hc : Cnts W K cE cD) {h : Nat} {a : Addr} {t : Tr} (hA : AtD W K h a t) : ((kDE a).map (mm cE cD true)).sum + ((kDD W a).map (mm cE cD false)).sum + 1 ≤ mm cE cD false a := by
  have h1 := cD_kids hc hA
  have h2 := (atD_kids hA).1
  have e2 : ((kDD W a).map (mm cE cD false)).sum = 2 * ((kDD W a).map (cD)).sum := sum_two
  obtain ⟨h', t', hE⟩ := h2 ⟨a.block, a.off + 2, none⟩ (List.mem_singleton.2 rfl)
  have h5 := cE_pos hc hE
  rw [mm_d, h1, e2]
  simp only [kDE, List.map_cons, List.map_nil, List.sum_cons, List.sum_nil, mm_e]
  omega
end
/-- A layer: what has been counted, what is left, and by which way each was come to. -/
structure Layer (W : World) (K : Nat → Prop) (cE cD : Addr → Nat) (total size k : Nat) (E D S1 S2 : List (Addr × Nat)) : Prop where
  sum : size + wsum (cE) E + wsum (cD) D = total
  e : ∀ p ∈ E, (∃ h t, AtE W K h p.1 t) ∧ 1 ≤ p.2
  d : ∀ p ∈ D, (∃ h t, AtD W K h p.1 t) ∧ 1 ≤ p.2
  s : (∀ a ∈ keysOf S1, K a.block) ∧ ∀ a ∈ keysOf S2, K a.block
  we : ∀ a ∈ keysOf E, ∃ c : List (Bool × Addr), c.length = k ∧ c.Nodup ∧ (∀ q ∈ c, (q.1 = true ∧ q.2 ∈ keysOf S1) ∨ (q.1 = false ∧ q.2 ∈ keysOf S2)) ∧ ∀ q ∈ c, mm cE cD true a < mm cE cD q.1 q.2
  wd : ∀ a ∈ keysOf D, ∃ c : List (Bool × Addr), c.length = k ∧ c.Nodup ∧ (∀ q ∈ c, (q.1 = true ∧ q.2 ∈ keysOf S1) ∨ (q.1 = false ∧ q.2 ∈ keysOf S2)) ∧ ∀ q ∈ c, mm cE cD false a < mm cE cD q.1 q.2
section
variable {W : World} {K : Nat → Prop} {cE cD : Addr → Nat} {total size k : Nat} {E D S1 S2 S1' S2' E' D' : List (Addr × Nat)}
theorem kid_e (hc : Cnts W K cE cD) (h : Layer W K cE cD total size k E D S1 S2) {x : Addr} (hx : x ∈ keysOf (kidsOf (kEE W) E ++ kidsOf kDE D)) : (∃ h t, AtE W K h x t) ∧ ((∃ p ∈ E, mm cE cD true x < mm cE cD true p.1) ∨ ∃ p ∈ D, mm cE cD true x < mm cE cD false p.1) := by
  rcases (keys_app _ _ _).1 hx with h1 | h1
  · obtain ⟨p, hp, hx⟩ := mem_kids h1
    obtain ⟨h', t, hA⟩ := (h.e p hp).1
    have h2 := mm_kidsE hc hA
    have h3 := sum_mem (f := mm cE cD true) hx
    exact ⟨(atE_kids hA).1 x hx, .inl ⟨p, hp, by omega⟩⟩
  · obtain ⟨p, hp, hx⟩ := mem_kids h1
    obtain ⟨h', t, hA⟩ := (h.d p hp).1
    have h2 := mm_kidsD hc hA
    have h3 := sum_mem (f := mm cE cD true) hx
    exact ⟨(atD_kids hA).1 x hx, .inr ⟨p, hp, by omega⟩⟩
theorem kid_d (hc : Cnts W K cE cD) (h : Layer W K cE cD total size k E D S1 S2) {x : Addr} (hx : x ∈ keysOf (kidsOf (kED W) E ++ kidsOf (kDD W) D)) : (∃ h t, AtD W K h x t) ∧ ((∃ p ∈ E, mm cE cD false x < mm cE cD true p.1) ∨ ∃ p ∈ D, mm cE cD false x < mm cE cD false p.1) := by
  rcases (keys_app _ _ _).1 hx with h1 | h1
  · obtain ⟨p, hp, hx⟩ := mem_kids h1
    obtain ⟨h', t, hA⟩ := (h.e p hp).1
    have h2 := mm_kidsE hc hA
    have h3 := sum_mem (f := mm cE cD false) hx
    exact ⟨(atE_kids hA).2 x hx, .inl ⟨p, hp, by omega⟩⟩
  · obtain ⟨p, hp, hx⟩ := mem_kids h1
    obtain ⟨h', t, hA⟩ := (h.d p hp).1
    have h2 := mm_kidsD hc hA
    have h3 := sum_mem (f := mm cE cD false) hx
    exact ⟨(atD_kids hA).2 x hx, .inr ⟨p, hp, by omega⟩⟩
theorem key_mem {l : List (Addr × Nat)} {p : Addr × Nat} (h : p ∈ l) : p.1 ∈ keysOf l := List.mem_map.2 ⟨p, h, rfl⟩
/-- What is below weighs as much, but for what is counted here. -/
theorem Layer.sums (h : Layer W K cE cD total size k E D S1 S2) (hc : Cnts W K cE cD) : wsum (cE) (kidsOf (kEE W) E ++ kidsOf kDE D) + wsum (cD) (kidsOf (kED W) E ++ kidsOf (kDD W) D) + wsum (fun _ => 1) E = wsum (cE) E + wsum (cD) D := by
  have e1 : wsum (cE) E = wsum (fun _ => 1) E + wsum (fun a => ((kEE W a).map (cE)).sum) E + wsum (fun a => ((kED W a).map (cD)).sum) E := by
    rw [← wsum_plus, ← wsum_plus]
    exact wsum_congr fun p hp => by
      obtain ⟨h', t, hA⟩ := (h.e p hp).1
      exact cE_kids hc hA
  have e2 : wsum (cD) D = wsum (fun a => ((kDE a).map (cE)).sum) D + wsum (fun a => ((kDD W a).map (cD)).sum) D := by
    rw [← wsum_plus]
    exact wsum_congr fun p hp => by
      obtain ⟨h', t, hA⟩ := (h.d p hp).1
      exact cD_kids hc hA
  rw [wsum_app, wsum_app, wsum_kids, wsum_kids, wsum_kids, wsum_kids, e1, e2]
  omega
theorem Layer.less (h : Layer W K cE cD total size k E D S1 S2) (hc : Cnts W K cE cD) : wsum (mm cE cD true) (kidsOf (kEE W) E ++ kidsOf kDE D) + wsum (mm cE cD false) (kidsOf (kED W) E ++ kidsOf (kDD W) D) + (E.length + D.length) ≤ wsum (mm cE cD true) E + wsum (mm cE cD false) D := by
  have e1 : wsum (fun a => ((kEE W a).map (mm cE cD true)).sum) E + wsum (fun a => ((kED W a).map (mm cE cD false)).sum) E + wsum (fun _ => 1) E ≤ wsum (mm cE cD true) E := by
    rw [← wsum_plus, ← wsum_plus]
    exact wsum_le fun p hp => by
      obtain ⟨h', t, hA⟩ := (h.e p hp).1
      exact mm_kidsE hc hA
  have e2 : wsum (fun a => ((kDE a).map (mm cE cD true)).sum) D + wsum (fun a => ((kDD W a).map (mm cE cD false)).sum) D + wsum (fun _ => 1) D ≤ wsum (mm cE cD false) D := by
    rw [← wsum_plus, ← wsum_plus]
    exact wsum_le fun p hp => by
      obtain ⟨h', t, hA⟩ := (h.d p hp).1
      exact mm_kidsD hc hA
  have e3 := len_wsum fun p hp => (h.e p hp).2
  have e4 := len_wsum fun p hp => (h.d p hp).2
  rw [wsum_app, wsum_app, wsum_kids, wsum_kids, wsum_kids, wsum_kids]
  omega
theorem Layer.bounds (h : Layer W K cE cD total size k E D S1 S2) (hc : Cnts W K cE cD) : size + wsum (fun _ => 1) E ≤ total ∧ wsum (fun _ => 1) (kidsOf (kEE W) E ++ kidsOf kDE D) ≤ total ∧ wsum (fun _ => 1) (kidsOf (kED W) E ++ kidsOf (kDD W) D) ≤ total ∧ E.length + D.length ≤ total := by
  have e0 := h.sum
  have e1 := h.sums hc
  have e2 : wsum (fun _ => 1) (kidsOf (kEE W) E ++ kidsOf kDE D) ≤ wsum (cE) (kidsOf (kEE W) E ++ kidsOf kDE D) := wsum_le fun p hp => by
    obtain ⟨⟨h', t, hA⟩, -⟩ := kid_e hc h (key_mem hp)
    exact cE_pos hc hA
  have e3 : wsum (fun _ => 1) (kidsOf (kED W) E ++ kidsOf (kDD W) D) ≤ wsum (cD) (kidsOf (kED W) E ++ kidsOf (kDD W) D) := wsum_le fun p hp => by
    obtain ⟨⟨h', t, hA⟩, -⟩ := kid_d hc h (key_mem hp)
    exact cD_pos hc hA
  have e4 := len_wsum fun p hp => (h.e p hp).2
  have e5 := len_wsum fun p hp => (h.d p hp).2
  have e6 : wsum (fun _ => 1) D ≤ wsum (cD) D := wsum_le fun p hp => by
    obtain ⟨⟨h', t, hA⟩, -⟩ := h.d p hp
    exact cD_pos hc hA
  have e7 : wsum (fun _ => 1) E ≤ wsum (cE) E := wsum_le fun p hp => by
    obtain ⟨⟨h', t, hA⟩, -⟩ := h.e p hp
    exact cE_pos hc hA
  refine ⟨by omega, by omega, by omega, by omega⟩
/-- The way to one that is there, and it itself, have been seen. -/
theorem Layer.seen (h : Layer W K cE cD total size k E D S1 S2) (h1 : ∀ x, x ∈ keysOf S1' ↔ x ∈ keysOf S1 ∨ x ∈ keysOf E) (h2 : ∀ x, x ∈ keysOf S2' ↔ x ∈ keysOf S2 ∨ x ∈ keysOf D) :
    (∀ a ∈ keysOf E, ∃ c : List (Bool × Addr), c.length = k + 1 ∧ c.Nodup ∧ (∀ q ∈ c, (q.1 = true ∧ q.2 ∈ keysOf S1') ∨ (q.1 = false ∧ q.2 ∈ keysOf S2')) ∧ ∀ q ∈ c, mm cE cD true a ≤ mm cE cD q.1 q.2) ∧
    (∀ a ∈ keysOf D, ∃ c : List (Bool × Addr), c.length = k + 1 ∧ c.Nodup ∧ (∀ q ∈ c, (q.1 = true ∧ q.2 ∈ keysOf S1') ∨ (q.1 = false ∧ q.2 ∈ keysOf S2')) ∧ ∀ q ∈ c, mm cE cD false a ≤ mm cE cD q.1 q.2) := by
  refine ⟨fun a ha => ?_, fun a ha => ?_⟩
  · obtain ⟨c, c1, c2, c3, c4⟩ := h.we a ha
    refine ⟨(true, a) :: c, by rw [List.length_cons, c1], List.nodup_cons.2 ⟨fun hm => Nat.lt_irrefl _ (c4 _ hm), c2⟩, fun q hq => ?_, fun q hq => ?_⟩
    · rcases List.mem_cons.1 hq with rfl | hq
      · exact .inl ⟨rfl, (h1 a).2 (.inr ha)⟩
      · rcases c3 q hq with ⟨e, m⟩ | ⟨e, m⟩
        · exact .inl ⟨e, (h1 _).2 (.inl m)⟩
        · exact .inr ⟨e, (h2 _).2 (.inl m)⟩
    · rcases List.mem_cons.1 hq with rfl | hq
      · exact Nat.le_refl _
      · exact Nat.le_of_lt (c4 q hq)
  · obtain ⟨c, c1, c2, c3, c4⟩ := h.wd a ha
    refine ⟨(false, a) :: c, by rw [List.length_cons, c1], List.nodup_cons.2 ⟨fun hm => Nat.lt_irrefl _ (c4 _ hm), c2⟩, fun q hq => ?_, fun q hq => ?_⟩
    · rcases List.mem_cons.1 hq with rfl | hq
      · exact .inr ⟨rfl, (h2 a).2 (.inr ha)⟩
      · rcases c3 q hq with ⟨e, m⟩ | ⟨e, m⟩
        · exact .inl ⟨e, (h1 _).2 (.inl m)⟩
        · exact .inr ⟨e, (h2 _).2 (.inl m)⟩
    · rcases List.mem_cons.1 hq with rfl | hq
      · exact Nat.le_refl _
      · exact Nat.le_of_lt (c4 q hq)
theorem Layer.deep (h : Layer W K cE cD total size k E D S1 S2) (h1 : ∀ x, x ∈ keysOf S1' ↔ x ∈ keysOf S1 ∨ x ∈ keysOf E) (h2 : ∀ x, x ∈ keysOf S2' ↔ x ∈ keysOf S2 ∨ x ∈ keysOf D) (hne : E.length + D.length ≠ 0) : k + 1 ≤ S1'.length + S2'.length := by
  have key : ∀ c : List (Bool × Addr), c.length = k + 1 → c.Nodup → (∀ q ∈ c, (q.1 = true ∧ q.2 ∈ keysOf S1') ∨ (q.1 = false ∧ q.2 ∈ keysOf S2')) → k + 1 ≤ S1'.length + S2'.length := by
    intro c c1 c2 c3
    have h4 := nodup_len c ((keysOf S1').map (fun a => (true, a)) ++ (keysOf S2').map (fun a => (false, a))) c2 fun q hq => by
      rw [List.mem_append]
      rcases c3 q hq with ⟨e, m⟩ | ⟨e, m⟩
      · exact .inl (List.mem_map.2 ⟨q.2, m, by rw [← e]⟩)
      · exact .inr (List.mem_map.2 ⟨q.2, m, by rw [← e]⟩)
    rw [c1, List.length_append, List.length_map, List.length_map] at h4
    simpa [keysOf] using h4
  obtain ⟨s1, s2⟩ := h.seen h1 h2
  cases E with
  | cons p r =>
    obtain ⟨c, c1, c2, c3, -⟩ := s1 p.1 (key_mem (List.mem_cons_self ..))
    exact key c c1 c2 c3
  | nil =>
    cases D with
    | nil => exact absurd rfl hne
    | cons p r =>
      obtain ⟨c, c1, c2, c3, -⟩ := s2 p.1 (key_mem (List.mem_cons_self ..))
      exact key c c1 c2 c3
theorem wsum_ge (f : Addr → Nat) : ∀ {l : List (Addr × Nat)} {q : Addr × Nat}, q ∈ l → q.2 * f q.1 ≤ wsum f l := by
  intro l
  induction l with
  | nil => intro q h; cases h
  | cons y r ih =>
    intro q h
    show q.2 * f q.1 ≤ y.2 * f y.1 + wsum f r
    rcases List.mem_cons.1 h with rfl | h
    · omega
    · have := ih h
      omega
theorem wsum_zero (f : Addr → Nat) : ∀ {l : List (Addr × Nat)}, (∀ q ∈ l, q.2 * f q.1 = 0) → wsum f l = 0 := by
  intro l
  induction l with
  | nil => intro _; rfl
  | cons y r ih =>
    intro h
    show y.2 * f y.1 + wsum f r = 0
    rw [h y (List.mem_cons_self ..), ih fun q hq => h q (List.mem_cons_of_mem _ hq)]
theorem key_inj : ∀ {l : List (Addr × Nat)}, (keysOf l).Nodup → ∀ {p q : Addr × Nat}, p ∈ l → q ∈ l → p.1 = q.1 → p = q := by
  intro l
  induction l with
  | nil => intro _ p q h; cases h
  | cons y r ih =>
    intro hn p q hp hq he
    obtain ⟨h1, h2⟩ := List.nodup_cons.1 hn
    rcases List.mem_cons.1 hp with e1 | hp2
    · rcases List.mem_cons.1 hq with e2 | hq2
      · rw [e1, e2]
      · exact absurd (by rw [← e1, he]; exact key_mem hq2) h1
    · rcases List.mem_cons.1 hq with e2 | hq2
      · exact absurd (by rw [← e2, ← he]; exact key_mem hp2) h1
      · exact ih h2 hp2 hq2 he
theorem plus_pos {A l : List (Addr × Nat)} (h : Plus [] A l) (hn : (keysOf A).Nodup) (hl : ∀ p ∈ l, 1 ≤ p.2) : ∀ p ∈ A, 1 ≤ p.2 := by
  intro p hp
  have h1 := h.sums fun a => if a = p.1 then 1 else 0
  rw [wsum_nil, Nat.zero_add] at h1
  have h2 : p.1 ∈ keysOf l := by
    rcases (h.keys p.1).1 (key_mem hp) with h3 | h3
    · cases h3
    · exact h3
  obtain ⟨q, hq, hqe⟩ := List.mem_map.1 h2
  have h3 := wsum_ge (fun a => if a = p.1 then 1 else 0) hq
  simp only [hqe, if_true, Nat.mul_one] at h3
  have h4 := hl q hq
  rcases Nat.eq_zero_or_pos p.2 with h0 | h0
  · have h5 : wsum (fun a => if a = p.1 then 1 else 0) A = 0 := wsum_zero _ fun y hy => by
      by_cases he : y.1 = p.1
      · rw [key_inj hn hy hp he, h0, Nat.zero_mul]
      · simp [he]
    omega
  · exact h0
theorem kids_pos {kk : Addr → List Addr} {l : List (Addr × Nat)} (h : ∀ p ∈ l, 1 ≤ p.2) : ∀ p ∈ kidsOf kk l, 1 ≤ p.2 := by
  intro q hq
  obtain ⟨p, hp, hq2⟩ := List.mem_flatMap.1 hq
  obtain ⟨y, hy, rfl⟩ := List.mem_map.1 hq2
  exact h p hp
/-- The layer below. -/
theorem Layer.below (h : Layer W K cE cD total size k E D S1 S2) (hc : Cnts W K cE cD) (h1 : ∀ x, x ∈ keysOf S1' ↔ x ∈ keysOf S1 ∨ x ∈ keysOf E) (h2 : ∀ x, x ∈ keysOf S2' ↔ x ∈ keysOf S2 ∨ x ∈ keysOf D) (pE : Plus [] E' (kidsOf (kEE W) E ++ kidsOf kDE D)) (pD : Plus [] D' (kidsOf (kED W) E ++ kidsOf (kDD W) D)) (nE : (keysOf E').Nodup) (nD : (keysOf D').Nodup) :
    Layer W K cE cD total (size + wsum (fun _ => 1) E) (k + 1) E' D' S1' S2' ∧ wsum (mm cE cD true) E' + wsum (mm cE cD false) D' + (E.length + D.length) ≤ wsum (mm cE cD true) E + wsum (mm cE cD false) D := by
  have kE : ∀ x ∈ keysOf E', x ∈ keysOf (kidsOf (kEE W) E ++ kidsOf kDE D) := (plus_nil pE).2
  have kD : ∀ x ∈ keysOf D', x ∈ keysOf (kidsOf (kED W) E ++ kidsOf (kDD W) D) := (plus_nil pD).2
  have posE := plus_pos pE nE fun p hp => by
    rcases List.mem_append.1 hp with hp | hp
    · exact kids_pos (fun q hq => (h.e q hq).2) p hp
    · exact kids_pos (fun q hq => (h.d q hq).2) p hp
  have posD := plus_pos pD nD fun p hp => by
    rcases List.mem_append.1 hp with hp | hp
    · exact kids_pos (fun q hq => (h.e q hq).2) p hp
    · exact kids_pos (fun q hq => (h.d q hq).2) p hp
  obtain ⟨s1, s2⟩ := h.seen h1 h2
  refine ⟨⟨?_, fun p hp => ⟨(kid_e hc h (kE _ (key_mem hp))).1, posE p hp⟩, fun p hp => ⟨(kid_d hc h (kD _ (key_mem hp))).1, posD p hp⟩, ⟨fun a ha => ?_, fun a ha => ?_⟩, fun a ha => ?_, fun a ha => ?_⟩, ?_⟩
  · have e1 := h.sum
    have e2 := h.sums hc
    rw [pE.sums, pD.sums, wsum_nil, wsum_nil]
    omega
  · rcases (h1 a).1 ha with h3 | h3
    · exact h.s.1 a h3
    · obtain ⟨p, hp, rfl⟩ := List.mem_map.1 h3
      obtain ⟨⟨h', t, hA⟩, -⟩ := h.e p hp
      exact hA.2.1
  · rcases (h2 a).1 ha with h3 | h3
    · exact h.s.2 a h3
    · obtain ⟨p, hp, rfl⟩ := List.mem_map.1 h3
      obtain ⟨⟨h', t, hA⟩, -⟩ := h.d p hp
      exact hA.2.1
  · rcases (kid_e hc h (kE a ha)).2 with ⟨p, hp, hlt⟩ | ⟨p, hp, hlt⟩
    · obtain ⟨c, c1, c2, c3, c4⟩ := s1 p.1 (key_mem hp)
      exact ⟨c, c1, c2, c3, fun q hq => Nat.lt_of_lt_of_le hlt (c4 q hq)⟩
    · obtain ⟨c, c1, c2, c3, c4⟩ := s2 p.1 (key_mem hp)
      exact ⟨c, c1, c2, c3, fun q hq => Nat.lt_of_lt_of_le hlt (c4 q hq)⟩
  · rcases (kid_d hc h (kD a ha)).2 with ⟨p, hp, hlt⟩ | ⟨p, hp, hlt⟩
    · obtain ⟨c, c1, c2, c3, c4⟩ := s1 p.1 (key_mem hp)
      exact ⟨c, c1, c2, c3, fun q hq => Nat.lt_of_lt_of_le hlt (c4 q hq)⟩
    · obtain ⟨c, c1, c2, c3, c4⟩ := s2 p.1 (key_mem hp)
      exact ⟨c, c1, c2, c3, fun q hq => Nat.lt_of_lt_of_le hlt (c4 q hq)⟩
  · have e1 := h.less hc
    rw [pE.sums, pD.sums, wsum_nil, wsum_nil]
    omega
end
end Go.Proofs.Ytegcebeaelpjhaj

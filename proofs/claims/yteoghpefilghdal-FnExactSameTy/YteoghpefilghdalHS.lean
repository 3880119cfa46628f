/- The last of what is left taken away; how many there are. -/
import Derived.Test.YteoghpefilghdalHR
namespace Go.Proofs.Yteoghpefilghdal
open Go.RowKit

theorem held_len {T : Nat → TypeId} {w : World} {K : Nat → Prop} {g : Nat} {ls ks : Nat → List (Addr × Addr)} (h : HeldMem T w K g ls ks) (i : Nat) (hi : i < 4) : ∃ o cap, w.cell? ⟨g, 2 * i, none⟩ = some (.slice o (ls i).length cap) := by
  obtain ⟨c, e, v, mo, hg, H⟩ := h
  obtain ⟨o, cap, hv⟩ := owns_form (H.mem i hi).row
  refine ⟨o, cap, ?_⟩
  rw [cell_of hg, H.rows i hi, hv]
theorem held_gw {T : Nat → TypeId} {w : World} {K : Nat → Prop} {g : Nat} {ls ks : Nat → List (Addr × Addr)} (h : HeldMem T w K g ls ks) : g < w.heap.size := by
  obtain ⟨c, e, v, mo, hg, H⟩ := h
  exact heap_lt hg
theorem held_kw {T : Nat → TypeId} {w : World} {K : Nat → Prop} {g : Nat} {ls ks : Nat → List (Addr × Addr)} (h : HeldMem T w K g ls ks) : ∀ k, K k → k < w.heap.size := by
  obtain ⟨c, e, v, mo, hg, H⟩ := h
  exact (H.mem 0 (by omega)).kw
theorem rowP_len (l : List (Addr × Addr)) : (rowP l).length = l.length * 2 := by
  induction l with
  | nil => rfl
  | cons x r ih =>
    have e : rowP (x :: r) = ptrs x ++ rowP r := rfl
    rw [e, List.length_append, ih, List.length_cons]
    show 2 + r.length * 2 = (r.length + 1) * 2
    omega
theorem held_pop {T : Nat → TypeId} {w : World} {K : Nat → Prop} {g : Nat} {ls ks : Nat → List (Addr × Addr)} (h : HeldMem T w K g ls ks) (i : Nat) (hi : i < 4) (l0 : List (Addr × Addr)) (p : Addr × Addr) (he : ls i = l0 ++ [p]) :
    ∃ gb cap, w.cell? ⟨g, 2 * i, none⟩ = some (.slice (some ⟨gb, 0, none⟩) (l0.length + 1) cap) ∧ w.frozen? ⟨g, 2 * i, none⟩ = false ∧ l0.length + 1 ≤ cap ∧ cap ≤ maxLen ∧ w.cell? ⟨gb, l0.length * 2, none⟩ = some (.pointer (some p.1)) ∧ w.cell? ⟨gb, l0.length * 2 + 1, none⟩ = some (.pointer (some p.2)) ∧
      HeldMem T (w.setCell ⟨g, 2 * i, none⟩ (.slice (some ⟨gb, 0, none⟩) l0.length cap)) K g (upd ls i l0) ks ∧ Keeps K w (w.setCell ⟨g, 2 * i, none⟩ (.slice (some ⟨gb, 0, none⟩) l0.length cap)) := by
  have hcopy := h
  obtain ⟨c, e, vl, mo, Kx, hg, hc0, hc1, hm, hK, hback⟩ := h.at i hi
  have hrow := hm.row
  rw [he, rowP_snoc, List.length_append] at hrow
  rcases hrow.2 with ⟨-, h0⟩ | ⟨gb, cap, cur, hv, -, hgb, hn, hcap, hsz, htk⟩
  · simp at h0
  have hn2 : l0.length + 1 ≤ cap := hn
  have hcur : ∀ j u, (rowP l0 ++ ptrs p)[j]? = some u → w.cell? ⟨gb, j, none⟩ = some u := by
    intro j u hu
    rw [cell_of hgb, ← Array.getElem?_toList]
    rw [← htk] at hu
    rw [List.getElem?_take] at hu
    split at hu
    · exact hu
    · cases hu
  have hl := rowP_len l0
  refine ⟨gb, cap, ?_, frozen_of hg _, hn2, hcap, ?_, ?_, ?_⟩
  · rw [cell_of hg, hc0, hv]
    rfl
  · refine hcur _ _ ?_
    rw [List.getElem?_append_right (by omega), hl, Nat.sub_self]
    rfl
  · refine hcur _ _ ?_
    rw [List.getElem?_append_right (by omega), hl, show l0.length * 2 + 1 - l0.length * 2 = 1 by omega]
    rfl
  · have hs := hm.set (2 * i) (.slice (some ⟨gb, 0, none⟩) l0.length cap)
    have hgn : gb ≠ g := fun e => hm.rg (by rw [hv, e]; rfl)
    have hob : Value.ownBlock (.slice (some ⟨gb, 0, none⟩) l0.length cap) = vl.ownBlock := by rw [hv]; rfl
    have hcs : 2 * i < c.size := by
      rcases Nat.lt_or_ge (2 * i) c.size with h1 | h1
      · exact h1
      · rw [Array.getElem?_eq_none h1] at hc0
        cases hc0
    have key := hback (w.setCell ⟨g, 2 * i, none⟩ (.slice (some ⟨gb, 0, none⟩) l0.length cap)) l0 (ks i) ⟨c.set! (2 * i) (.slice (some ⟨gb, 0, none⟩) l0.length cap), .slice (some ⟨gb, 0, none⟩) l0.length cap, mo, heap_set_same _ hg, ?_, ?_, ?_, ?_, ?_⟩ ?_
    · refine ⟨?_, key.2⟩
      have h1 := key.1
      rw [upd_self] at h1
      exact h1
    · rw [Array.set!_eq_setIfInBounds, Array.getElem?_setIfInBounds_self_of_lt hcs]
    · rw [Array.set!_eq_setIfInBounds, Array.getElem?_setIfInBounds_ne (by omega)]
      exact hc1
    · intro j h1 h2
      rw [Array.set!_eq_setIfInBounds, Array.getElem?_setIfInBounds_ne (Ne.symm h1)]
    · refine ⟨⟨by rw [hl], Or.inr ⟨gb, cap, cur, rfl, Nat.zero_le _, (heap_set_other _ hgn).trans hgb, by omega, hcap, hsz, ?_⟩⟩, hs.map, by rw [hob]; exact hs.rg, hs.mg, by rw [hob]; exact hs.rm, hs.kg, by rw [hob]; exact hs.kr, hs.km, hs.kw, hs.gw, hs.keys⟩
      have h3 : (cur.toList.take ((l0.length + [p].length) * 2)).take (l0.length * 2) = (rowP l0 ++ ptrs p).take (l0.length * 2) := by rw [htk]
      rw [List.take_take, Nat.min_eq_left (by simp; omega), List.take_append_of_le_length (by omega), List.take_of_length_le (l := rowP l0) (by omega)] at h3
      exact h3
    · exact ⟨rfl, rfl, rfl, by simp, fun k hk => heap_set_other _ fun e => hm.kg (e ▸ hk)⟩
    · intro l hl
      obtain ⟨c2, e2, v, mo2, -, H⟩ := hcopy
      exact ⟨((H.mem i hi).keys l hl).1.1, ((H.mem i hi).keys l hl).2.1⟩
theorem row_zero {α : Type} {K : Nat → Prop} {w : World} {sz : Nat} {o : Option Addr} {xs : List α} (h : RowOf K w (fun _ _ => False) sz o xs) : xs = [] := by
  cases xs with
  | nil => rfl
  | cons x r =>
    obtain ⟨_, _, _, _, _, hc⟩ := h (by simp)
    obtain ⟨_, _, _, hf⟩ := hc 0 x rfl
    exact hf.elim
theorem ndh_one (h : Nat) (t : Tr) : 1 ≤ ndh (h + 1) t := by
  show 1 ≤ 1 + (t.l.map (ndh h)).sum + (t.ds.map (ndh h)).sum + (t.al.map (ndh h)).sum
  omega
/-- A tree has no more parts than it weighs. -/
theorem kids_len {W : World} {K : Nat → Prop} {i h : Nat} {x : Addr} {t : Tr} (a : AtH W K i h x t) : t.l.length ≤ ndh h t ∧ t.ds.length ≤ ndh h t ∧ t.al.length ≤ ndh h t ∧ 1 ≤ ndh h t := by
  obtain ⟨-, -, cs, -, -, hr⟩ := a
  have hne : h ≠ 0 := by
    intro e
    subst e
    unfold rd4 at hr
    split at hr
    · exact hr.elim
    · split at hr
      · exact hr.elim
      · split at hr <;> exact hr.elim
  obtain ⟨h, rfl⟩ : ∃ k, h = k + 1 := ⟨h - 1, by omega⟩
  have hz : h = 0 → t.l = [] ∧ t.ds = [] ∧ t.al = [] := by
    intro e
    subst e
    unfold rd4 at hr
    split at hr
    · obtain ⟨-, o1, c1, o2, c2, o3, c3, -, -, -, -, -, r1, r2, r3⟩ := hr
      exact ⟨row_zero r1, row_zero r2, row_zero r3⟩
    · split at hr
      · obtain ⟨-, -, -, e, o1, c1, ce, o2, c2, -, -, -, -, -, -, -, re, -⟩ := hr
        exact re.elim
      · split at hr
        · obtain ⟨-, -, -, -, e, o1, c1, ce, -, -, -, -, -, -, re⟩ := hr
          exact re.elim
        · obtain ⟨-, z2, z3, o1, c1, -, -, -, r1⟩ := hr
          exact ⟨row_zero r1, z2, z3⟩
  have key : ∀ l : List Tr, (h = 0 → l = []) → l.length ≤ (l.map (ndh h)).sum := by
    intro l hl
    cases h with
    | zero => rw [hl rfl]; exact Nat.zero_le _
    | succ h => exact list_sum_len (h + 1) ndh l fun y _ => ndh_one h y
  have k1 := key t.l fun e => (hz e).1
  have k2 := key t.ds fun e => (hz e).2.1
  have k3 := key t.al fun e => (hz e).2.2
  show _ ≤ 1 + (t.l.map (ndh h)).sum + (t.ds.map (ndh h)).sum + (t.al.map (ndh h)).sum ∧ _
  refine ⟨by omega, ?_, ?_, ndh_one h t⟩
  · show _ ≤ 1 + (t.l.map (ndh h)).sum + (t.ds.map (ndh h)).sum + (t.al.map (ndh h)).sum
    omega
  · show _ ≤ 1 + (t.l.map (ndh h)).sum + (t.ds.map (ndh h)).sum + (t.al.map (ndh h)).sum
    omega
/-- What is known of the last one, and of the rest. -/
theorem Good.pop {W : World} {K : Nat → Prop} {F : Prop} {ls ks : Nat → List (Addr × Addr)} {n i : Nat} {l0 : List (Addr × Addr)} {p : Addr × Addr} (h : Good W K F ls ks n) (hi : i < 4) (he : ls i = l0 ++ [p]) :
    ∃ a t b u, AtH W K i a p.1 t ∧ AtH W K i b p.2 u ∧ (F → t = u) ∧ ∃ n0 n1 n2 n3, WtL W K F 0 (upd ls i l0 0) n0 ∧ WtL W K F 1 (upd ls i l0 1) n1 ∧ WtL W K F 2 (upd ls i l0 2) n2 ∧ WtL W K F 3 (upd ls i l0 3) n3 ∧ n0 + n1 + n2 + n3 + (ndh a t - 1) + 1 ≤ n := by
  obtain ⟨n0, n1, n2, n3, w0, w1, w2, w3, hs⟩ := h.wt
  match i, hi with
  | 0, _ =>
    rw [he] at w0
    obtain ⟨x, y, v0, v1, hv⟩ := w0.split
    obtain ⟨a, t, b, u, q, h1, h2, h3, h4, -⟩ := v1
    have := (kids_len h1).2.2.2
    exact ⟨a, t, b, u, h1, h2, h3, x, n1, n2, n3, v0, w1, w2, w3, by omega⟩
  | 1, _ =>
    rw [he] at w1
    obtain ⟨x, y, v0, v1, hv⟩ := w1.split
    obtain ⟨a, t, b, u, q, h1, h2, h3, h4, -⟩ := v1
    have := (kids_len h1).2.2.2
    exact ⟨a, t, b, u, h1, h2, h3, n0, x, n2, n3, w0, v0, w2, w3, by omega⟩
  | 2, _ =>
    rw [he] at w2
    obtain ⟨x, y, v0, v1, hv⟩ := w2.split
    obtain ⟨a, t, b, u, q, h1, h2, h3, h4, -⟩ := v1
    have := (kids_len h1).2.2.2
    exact ⟨a, t, b, u, h1, h2, h3, n0, n1, x, n3, w0, w1, v0, w3, by omega⟩
  | 3, _ =>
    rw [he] at w3
    obtain ⟨x, y, v0, v1, hv⟩ := w3.split
    obtain ⟨a, t, b, u, q, h1, h2, h3, h4, -⟩ := v1
    have := (kids_len h1).2.2.2
    exact ⟨a, t, b, u, h1, h2, h3, n0, n1, n2, x, w0, w1, w2, v0, by omega⟩
theorem least_any {α : Type} (G : Nat → α → Prop) : ∃ mu : α → Nat, ∀ w m, G m w → G (mu w) w ∧ mu w ≤ m := by
  have h : ∀ w, ∃ n, ∀ m, G m w → G n w ∧ n ≤ m := by
    intro w
    by_cases he : ∃ m, G m w
    · obtain ⟨m, hm⟩ := he
      induction m using Nat.strongRecOn with
      | ind m ih =>
        by_cases hl : ∃ k, k < m ∧ G k w
        · obtain ⟨k, hk, hg⟩ := hl
          exact ih k hk hg
        · refine ⟨m, fun k hk => ⟨hm, ?_⟩⟩
          rcases Nat.lt_or_ge k m with h1 | h1
          · exact absurd ⟨k, h1, hk⟩ hl
          · exact h1
    · exact ⟨0, fun m hm => absurd ⟨m, hm⟩ he⟩
  obtain ⟨f, hf⟩ := Classical.axiomOfChoice h
  exact ⟨f, fun w m hm => hf w m hm⟩
end Go.Proofs.Yteoghpefilghdal

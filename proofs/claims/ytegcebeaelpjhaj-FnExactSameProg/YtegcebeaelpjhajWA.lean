/- The program's SameProg: just if the two are one program. -/
import Derived.Test.YtegcebeaelpjhajHZ
namespace Go.Proofs.Ytegcebeaelpjhaj
open Go.ChangeShapes Go.WideShapes Go.ChangeAt Go.RowKit

theorem held_zero4 {w : World} {K : Nat → Prop} {e : TypeId} (hk : ∀ k, K k → k < w.heap.size) : HeldMem TT (w.alloc (.cells #[.slice none 0 0, .map none, .slice none 0 0, .map none, .slice none 0 0, .map none, .slice none 0 0, .map none] e)) K w.heap.size (fun _ => []) (fun _ => []) := by
  refine ⟨_, e, fun _ => .slice none 0 0, fun _ => none, heap_alloc_new w _, ⟨fun i hi => ?_, fun i hi => ?_, fun i hi => ?_, fun i j _ _ _ k hk => ?_⟩⟩
  · match i, hi with
    | 0, _ | 1, _ | 2, _ | 3, _ => rfl
  · match i, hi with
    | 0, _ | 1, _ | 2, _ | 3, _ => rfl
  · refine ⟨⟨rfl, .inl ⟨rfl, rfl⟩⟩, .inl ⟨rfl, rfl⟩, (fun h => by cases h), (fun h => by cases h), .inl rfl, fun h => ?_, (fun k h => by cases h), (fun k h => by cases h), fun k h => ?_, by simp, fun l hl => by cases hl⟩
    · have := hk _ h
      omega
    · have := hk k h
      simp
      omega
  · rcases hk with h | h <;> cases h
theorem kids_same {W : World} {KP : Nat → Prop} {ks : Nat → List (Addr × Addr)} {j : Nat} {l m : List Tr} (hj : j < 4) (h : ∀ i, i < 4 → ∀ p ∈ ks i, Done W KP ks i p) (hk : Kids W KP ks j l m) (hl : l.length = m.length) : l = m := by
  apply List.ext_getElem hl
  intro k ka kb
  obtain ⟨q, ⟨c1, d1⟩, ⟨c2, d2⟩, hq⟩ := hk k _ _ (List.getElem?_eq_getElem ka) (List.getElem?_eq_getElem kb)
  rcases hq with hq | hq
  · rw [← hq] at d2
    exact at_fun d1 d2
  · exact all_same h _ j hj q hq _ _ _ _ (Nat.le_refl _) d1 d2
theorem row_read {K : Nat → Prop} {w : World} {R : Tr → List Value → Prop} {sz : Nat} {o : Option Addr} {xs : List Tr} (h : RowOf K w R sz o xs) {k : Nat} {x : Tr} (hx : xs[k]? = some x) : ∃ cs, R x cs := by
  obtain ⟨_, _, _, _, _, hc⟩ := h (fun e => by rw [e] at hx; simp at hx)
  obtain ⟨cs, _, _, hr⟩ := hc k x hx
  exact ⟨cs, hr⟩
theorem nl_ext {K K' : Nat → Prop} {w w' : World} {R R' : Tr → List Value → Prop} {n n' : Nat} {t u : Tr} {cs ds : List Value} (a : nlR K w R n t cs) (b : nlR K' w' R' n' u ds) (hs : t.s = u.s) (hl : t.l = u.l) : t = u := by
  obtain ⟨a1, a2, a3, a4, a5, -⟩ := a
  obtain ⟨b1, b2, b3, b4, b5, -⟩ := b
  exact tr_ext (a1.trans b1.symm) hs (a2.trans b2.symm) (a3.trans b3.symm) hl (a4.trans b4.symm) (a5.trans b5.symm)
/-- Datas that are right with each other, when all that was put is the same. -/
theorem datas_eq {W : World} {KP : Nat → Prop} {ks : Nat → List (Addr × Addr)} {h h' : Nat} {o p : Option Addr} {xs ys : List Tr} (hd : ∀ i, i < 4 → ∀ q ∈ ks i, Done W KP ks i q) (hx : RowOf KP W (daR KP W h) 2 o xs) (hy : RowOf KP W (daR KP W h') 2 p ys) (hl : xs.length = ys.length) (hok : ∀ (k : Nat) (a b : Tr), xs[k]? = some a → ys[k]? = some b → DatOk W KP ks a b) : xs = ys := by
  apply List.ext_getElem hl
  intro k ka kb
  have ea := List.getElem?_eq_getElem ka
  have eb := List.getElem?_eq_getElem kb
  obtain ⟨cs, ra⟩ := row_read hx ea
  obtain ⟨ds, rb⟩ := row_read hy eb
  obtain ⟨h1, h2, h3⟩ := hok k _ _ ea eb
  refine nl_ext ra rb h1 (List.ext_getElem h2 fun i ia ib => ?_)
  have fa := List.getElem?_eq_getElem ia
  have fb := List.getElem?_eq_getElem ib
  obtain ⟨-, -, -, -, -, oa, ca, -, -, -, qa⟩ := ra
  obtain ⟨-, -, -, -, -, ob, cb, -, -, -, qb⟩ := rb
  obtain ⟨cs2, ra2⟩ := row_read qa fa
  obtain ⟨ds2, rb2⟩ := row_read qb fb
  obtain ⟨g1, g2, g3⟩ := h3 i _ _ fa fb
  exact nl_ext ra2 rb2 g1 (kids_same (by omega) hd g3 g2)
end Go.Proofs.Ytegcebeaelpjhaj

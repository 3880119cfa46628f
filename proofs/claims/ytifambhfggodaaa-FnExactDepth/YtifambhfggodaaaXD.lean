/- The law's copy of rows of trees. -/
import Derived.Test.YtifambhfggodaaaXC
import Derived.Laws.MakeOwn
namespace Go.Proofs.Ytifambhfggodaaa
open Go.ChangeShapes Go.WideShapes Go.ChangeAt Go.RowKit

/-- All blocks; those from one on; those behind one. -/
abbrev AllK : Nat → Prop := fun _ => True
def FromK (n : Nat) : Nat → Prop := fun b => n ≤ b
def putAt : Array Value → Nat → List Value → Array Value
  | cur, _, [] => cur
  | cur, p, v :: r => putAt (cur.set! p v) (p + 1) r
theorem putAt_size (cs : List Value) : ∀ (cur : Array Value) (p : Nat), (putAt cur p cs).size = cur.size := by
  induction cs with
  | nil => intro _ _; rfl
  | cons v r ih => intro cur p; show (putAt (cur.set! p v) (p + 1) r).size = _; rw [ih]; simp
theorem putAt_out (cs : List Value) : ∀ (cur : Array Value) (p q : Nat), (q < p ∨ p + cs.length ≤ q) → (putAt cur p cs)[q]? = cur[q]? := by
  induction cs with
  | nil => intro _ _ _ _; rfl
  | cons v r ih =>
    intro cur p q h
    show (putAt (cur.set! p v) (p + 1) r)[q]? = _
    rw [List.length_cons] at h
    rw [ih _ _ _ (by omega), Array.set!_eq_setIfInBounds, Array.getElem?_setIfInBounds_ne (by omega)]
theorem putAt_in (cs : List Value) : ∀ (cur : Array Value) (p j : Nat) (u : Value), p + cs.length ≤ cur.size → cs[j]? = some u → (putAt cur p cs)[p + j]? = some u := by
  induction cs with
  | nil => intro _ _ _ _ _ h; simp at h
  | cons v r ih =>
    intro cur p j u hs h
    show (putAt (cur.set! p v) (p + 1) r)[p + j]? = _
    rw [List.length_cons] at hs
    cases j with
    | zero =>
      have : v = u := by simpa using h
      subst this
      rw [putAt_out _ _ _ _ (by omega), Array.set!_eq_setIfInBounds, Nat.add_zero, Array.getElem?_setIfInBounds_self_of_lt (by omega)]
    | succ j =>
      rw [show p + (j + 1) = (p + 1) + j by omega]
      exact ih _ _ _ _ (by simp; omega) (by simpa using h)

/-- The elements that a row's cells hold so far. -/
def Filled {α : Type} (R : α → List Value → Prop) (size : Nat) (cur : Array Value) (xs : List α) : Prop :=
  ∀ k x, xs[k]? = some x → ∃ cs, cs.length = size ∧ (∀ j u, cs[j]? = some u → cur[k * size + j]? = some u) ∧ R x cs
theorem Filled.nil {α : Type} (R : α → List Value → Prop) (size : Nat) (cur : Array Value) : Filled R size cur ([] : List α) := fun k x h => by simp at h
theorem Filled.snoc {α : Type} {R R' : α → List Value → Prop} {size : Nat} {cur : Array Value} {xs : List α} {i : Nat} {x : α} {cs : List Value} (h : Filled R size cur (xs.take i)) (hR : ∀ x cs, R x cs → R' x cs) (hx : xs[i]? = some x) (hl : cs.length = size) (hs : cur.size = xs.length * size) (hr : R' x cs) : Filled R' size (putAt cur (i * size) cs) (xs.take (i + 1)) := by
  have hi : i < xs.length := (List.getElem?_eq_some_iff.1 hx).1
  have hmul : (i + 1) * size ≤ xs.length * size := Nat.mul_le_mul_right _ hi
  have hone : (i + 1) * size = i * size + size := by rw [Nat.add_mul, Nat.one_mul]
  intro k y hy
  by_cases hk : k < i
  · rw [List.getElem?_take, if_pos (by omega)] at hy
    obtain ⟨cs', h1, h2, h3⟩ := h k y (by rw [List.getElem?_take, if_pos hk]; exact hy)
    refine ⟨cs', h1, fun j u hu => ?_, hR _ _ h3⟩
    have hj : j < size := by rw [← h1]; exact (List.getElem?_eq_some_iff.1 hu).1
    have hk2 : (k + 1) * size ≤ i * size := Nat.mul_le_mul_right _ hk
    have hk3 : (k + 1) * size = k * size + size := by rw [Nat.add_mul, Nat.one_mul]
    rw [putAt_out _ _ _ _ (by omega)]
    exact h2 j u hu
  · have hk2 : k = i := by
      have := (List.getElem?_eq_some_iff.1 hy).1
      rw [List.length_take] at this
      omega
    subst hk2
    have hxy : x = y := by
      rw [List.getElem?_take, if_pos (by omega), hx] at hy
      simpa using hy
    subst hxy
    exact ⟨cs, hl, fun j u hu => putAt_in _ _ _ _ _ (by omega) hu, hr⟩
theorem Filled.row {α : Type} {K : Nat → Prop} {w : World} {R : α → List Value → Prop} {size : Nat} {cur : Array Value} {e : TypeId} {b : Nat} {xs : List α} (h : Filled R size cur xs) (hg : w.heap[b]? = some (.cells cur e (0, 0))) (hK : K b) : RowOf K w R size (some ⟨b, 0, none⟩) xs := by
  intro _
  refine ⟨b, 0, rfl, hK, heap_lt hg, fun i x hx => ?_⟩
  obtain ⟨cs, h1, h2, h3⟩ := h i x hx
  refine ⟨cs, h1, fun j u hu => ?_, h3⟩
  rw [Nat.zero_add, cell_of hg]
  exact h2 j u hu
/-- What is new are plain rows, none of them frozen. -/
def Plain (w w' : World) : Prop := ∀ b, w.heap.size ≤ b → b < w'.heap.size → ∃ c e, w'.heap[b]? = some (.cells c e (0, 0))
theorem Plain.refl (w : World) : Plain w w := fun b h1 h2 => by omega
theorem Plain.on {w w1 w2 : World} (h : Plain w w1) (k : Plain w1 w2) (hb : Below w1.heap.size w1 w2) : Plain w w2 := by
  intro b h1 h2
  by_cases hl : b < w1.heap.size
  · obtain ⟨c, e, hc⟩ := h b h1 hl
    exact ⟨c, e, (hb.block b hl).trans hc⟩
  · exact k b (by omega) h2
theorem Plain.alloc {w w1 : World} (h : Plain w w1) (c : Array Value) (e : TypeId) : Plain w (w1.alloc (.cells c e)) := by
  intro b h1 h2
  by_cases hl : b < w1.heap.size
  · obtain ⟨c', e', hc⟩ := h b h1 hl
    exact ⟨c', e', (Below.heap_alloc _ _ _ hl).trans hc⟩
  · have hb : b = w1.heap.size := by simp at h2; omega
    subst hb
    exact ⟨c, e, heap_alloc_new w1 _⟩
theorem Plain.set {w w1 : World} (h : Plain w w1) (g j : Nat) (v : Value) : Plain w (w1.setCell ⟨g, j, none⟩ v) := by
  intro b h1 h2
  have h3 : b < w1.heap.size := by simpa using h2
  obtain ⟨c, e, hc⟩ := h b h1 h3
  by_cases hg : b = g
  · subst hg
    exact ⟨_, _, heap_set_same v hc⟩
  · exact ⟨c, e, (heap_set_other v hg).trans hc⟩
theorem Stays.refl (K : Nat → Prop) (w : World) : Stays K w w := ⟨Nat.le_refl _, fun _ _ _ => rfl⟩
theorem le_sum {α : Type} (f : α → Nat) (xs : List α) (x : α) (h : x ∈ xs) : f x ≤ (xs.map f).sum := by
  induction xs with
  | nil => cases h
  | cons y r ih =>
    rw [List.map_cons, List.sum_cons]
    rcases List.mem_cons.1 h with rfl | h
    · omega
    · have := ih h
      omega

theorem ex_form {K : Nat → Prop} {w : World} {h : Nat} {x : Tr} {cs : List Value} (hr : (reads K w h).ex x cs) : ∃ o1 c1 o2 c2 o3 c3, cs = [.int .i64 x.k, .string x.s, .int .i64 x.n, .slice o1 x.l.length c1, .slice o2 x.ds.length c2, .slice o3 x.al.length c3] := by
  cases h with
  | zero => exact hr.elim
  | succ h =>
    obtain ⟨-, o1, c1, o2, c2, o3, c3, e, -⟩ := hr
    exact ⟨o1, c1, o2, c2, o3, c3, e⟩
theorem de_form {K : Nat → Prop} {w : World} {h : Nat} {x : Tr} {cs : List Value} (hr : (reads K w h).de x cs) : ∃ (y : Tr) (o : Option Addr) (c : Nat) (o1 : Option Addr) (c1 : Nat) (o2 : Option Addr) (c2 : Nat) (o3 : Option Addr) (c3 : Nat) (o4 : Option Addr) (c4 : Nat), cs = [.string x.s, .slice o x.ss.length c, .int .i64 y.k, .string y.s, .int .i64 y.n, .slice o1 y.l.length c1, .slice o2 y.ds.length c2, .slice o3 y.al.length c3, .slice o4 x.ds.length c4] := by
  cases h with
  | zero => exact hr.elim
  | succ h =>
    obtain ⟨-, -, -, y, o, c, ce, o4, c4, -, e, -, -, -, -, -, q, -⟩ := hr
    obtain ⟨o1, c1, o2, c2, o3, c3, rfl⟩ := ex_form q
    exact ⟨y, o, c, o1, c1, o2, c2, o3, c3, o4, c4, e⟩
theorem al_form {K : Nat → Prop} {w : World} {h : Nat} {x : Tr} {cs : List Value} (hr : (reads K w h).al x cs) : ∃ (y : Tr) (o : Option Addr) (c : Nat) (o1 : Option Addr) (c1 : Nat) (o2 : Option Addr) (c2 : Nat) (o3 : Option Addr) (c3 : Nat), cs = [.string x.s, .slice o x.ss.length c, .int .i64 y.k, .string y.s, .int .i64 y.n, .slice o1 y.l.length c1, .slice o2 y.ds.length c2, .slice o3 y.al.length c3] := by
  cases h with
  | zero => exact hr.elim
  | succ h =>
    obtain ⟨-, -, -, -, y, o, c, ce, -, e, -, -, -, -, q⟩ := hr
    obtain ⟨o1, c1, o2, c2, o3, c3, rfl⟩ := ex_form q
    exact ⟨y, o, c, o1, c1, o2, c2, o3, c3, e⟩

theorem info_string : (Try.prog.info? 9).map (fun i => (i.zero, i.size, i.bytes)) = some (some (.string ⟨#[]⟩), 1, 16) := by kernel_rfl
end Go.Proofs.Ytifambhfggodaaa

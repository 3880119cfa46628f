/- Trees in new memory, and which blocks they lie in. -/
import Derived.Test.YtgeckgdmkjddpaaRA
import Derived.Maps.AppendAt
namespace Go.Proofs.Ytgeckgdmkjddpaa.Rd
open Go.ChangeShapes Go.WideShapes Go.ChangeAt Go.RowKit

/-- All is kept but block b. -/
def Mv (b : Nat) (w w' : World) : Prop := Keeps (fun k => k < w.heap.size ∧ k ≠ b) w w'
theorem Mv.refl (b : Nat) (w : World) : Mv b w w := Keeps.refl _ _
theorem Mv.trans {b : Nat} {u v w : World} (h : Mv b u v) (k : Mv b v w) : Mv b u w :=
  ⟨k.os.trans h.os, k.tape.trans h.tape, k.output.trans h.output, Nat.le_trans h.size k.size, fun i hi => (k.block i ⟨Nat.lt_of_lt_of_le hi.1 h.size, hi.2⟩).trans (h.block i hi)⟩
theorem Mv.of {b : Nat} {w w' : World} (h : Below w.heap.size w w') : Mv b w w' := ⟨h.os, h.tape, h.output, h.size, fun k hk => h.block k hk.1⟩
theorem Mv.alloc (b : Nat) (w : World) (o : Obj) : Mv b w (w.alloc o) := Mv.of ((Below.refl _ w).alloc (Nat.le_refl _) _)
theorem Mv.drew (b : Nat) (w : World) : Mv b w w.drew := Mv.of (Below.refl _ w).drew
theorem Mv.set (b j : Nat) (w : World) (v : Value) : Mv b w (w.setCell ⟨b, j, none⟩ v) := keeps_set w b j v fun h => h.2 rfl
theorem Mv.below {b s : Nat} {w w' : World} (h : Mv b w w') (hb : s ≤ b) (hs : s ≤ w.heap.size) : Below s w w' := ⟨h.os, h.tape, h.output, h.size, fun k hk => h.block k ⟨by omega, by omega⟩⟩

def lenK (i : Nat) : Nat := if i = 0 then 6 else if i = 1 then 9 else 8
def tyK (i : Nat) : TypeId := if i = 0 then 32 else if i = 1 then 44 else 54
def All3 {α β γ : Type} (R : α → β → γ → Prop) : List α → List β → List γ → Prop
  | [], [], [] => True
  | a :: x, b :: y, c :: z => R a b c ∧ All3 R x y z
  | _, _, _ => False
theorem All3.len {α β γ : Type} {R : α → β → γ → Prop} : ∀ {x : List α} {y : List β} {z : List γ}, All3 R x y z → y.length = x.length ∧ z.length = x.length
  | [], [], [], _ => ⟨rfl, rfl⟩
  | _ :: _, _ :: _, _ :: _, h => by
    obtain ⟨h1, h2⟩ := h.2.len
    exact ⟨by simp [h1], by simp [h2]⟩
  | [], _ :: _, _, h => h.elim
  | [], [], _ :: _, h => h.elim
  | _ :: _, [], _, h => h.elim
  | _ :: _, _ :: _, [], h => h.elim
theorem All3.mono {α β γ : Type} {R R' : α → β → γ → Prop} : ∀ {x : List α} {y : List β} {z : List γ}, All3 R x y z → (∀ a b c, c ∈ z → R a b c → R' a b c) → All3 R' x y z
  | [], [], [], _, _ => trivial
  | _ :: _, _ :: _, _ :: _, h, hm => ⟨hm _ _ _ (List.mem_cons_self ..) h.1, h.2.mono fun a b c hc => hm a b c (List.mem_cons_of_mem _ hc)⟩
  | [], _ :: _, _, h, _ => h.elim
  | [], [], _ :: _, h, _ => h.elim
  | _ :: _, [], _, h, _ => h.elim
  | _ :: _, _ :: _, [], h, _ => h.elim
theorem All3.snoc {α β γ : Type} {R : α → β → γ → Prop} : ∀ {x : List α} {y : List β} {z : List γ} {a : α} {b : β} {c : γ}, All3 R x y z → R a b c → All3 R (x ++ [a]) (y ++ [b]) (z ++ [c])
  | [], [], [], _, _, _, _, h => ⟨h, trivial⟩
  | _ :: _, _ :: _, _ :: _, _, _, _, h, k => ⟨h.1, h.2.snoc k⟩
  | [], _ :: _, _, _, _, _, h, _ => h.elim
  | [], [], _ :: _, _, _, _, h, _ => h.elim
  | _ :: _, [], _, _, _, _, h, _ => h.elim
  | _ :: _, _ :: _, [], _, _, _, h, _ => h.elim
theorem All3.get {α β γ : Type} {R : α → β → γ → Prop} : ∀ {x : List α} {y : List β} {z : List γ}, All3 R x y z → ∀ (i : Nat) a, x[i]? = some a → ∃ b c, y[i]? = some b ∧ z[i]? = some c ∧ R a b c
  | [], [], [], _, i, a, e => by simp at e
  | _ :: _, b :: _, c :: _, h, 0, a, e => by
    simp at e
    subst e
    exact ⟨b, c, rfl, rfl, h.1⟩
  | _ :: _, _ :: _, _ :: _, h, i + 1, a, e => by
    obtain ⟨b, c, h1, h2, h3⟩ := h.2.get i a (by simpa using e)
    exact ⟨b, c, by simpa using h1, by simpa using h2, h3⟩
  | [], _ :: _, _, h, _, _, _ => h.elim
  | [], [], _ :: _, h, _, _, _ => h.elim
  | _ :: _, [], _, h, _, _, _ => h.elim
  | _ :: _, _ :: _, [], h, _, _, _ => h.elim

theorem flat_get {sz : Nat} : ∀ (css : List (List Value)), (∀ c ∈ css, c.length = sz) → ∀ i c j u, css[i]? = some c → c[j]? = some u → css.flatten[i * sz + j]? = some u := by
  intro css
  induction css with
  | nil => intro _ i c j u h; simp at h
  | cons d r ih =>
    intro hl i c j u hc hu
    have hd := hl d (List.mem_cons_self ..)
    cases i with
    | zero =>
      simp at hc
      subst hc
      have hj : j < d.length := (List.getElem?_eq_some_iff.1 hu).1
      rw [List.flatten_cons, Nat.zero_mul, Nat.zero_add, List.getElem?_append_left hj]
      exact hu
    | succ i =>
      have h1 := ih (fun c hc => hl c (List.mem_cons_of_mem _ hc)) i c j u (by simpa using hc) hu
      rw [List.flatten_cons, List.getElem?_append_right (by rw [hd, Nat.add_mul, Nat.one_mul]; omega), hd, Nat.add_mul, Nat.one_mul, show i * sz + sz + j - sz = i * sz + j from by omega]
      exact h1
theorem flat_len {sz : Nat} : ∀ (css : List (List Value)), (∀ c ∈ css, c.length = sz) → css.flatten.length = css.length * sz := by
  intro css
  induction css with
  | nil => intro _; simp
  | cons d r ih =>
    intro hl
    rw [List.flatten_cons, List.length_append, hl d (List.mem_cons_self ..), ih fun c hc => hl c (List.mem_cons_of_mem _ hc), List.length_cons, Nat.add_mul, Nat.one_mul]
    omega
/-- A row of elements that is owned: their cells. -/
def Row (w : World) (E : TypeId) (sz : Nat) (v : Value) (css : List (List Value)) : Prop := (∀ c ∈ css, c.length = sz) ∧ w.ownsRow 0 E sz v css.length css.flatten
def ownL (v : Value) : List Nat := v.ownBlock.toList
theorem Row.nil (w : World) (E : TypeId) (sz : Nat) : Row w E sz (.slice none 0 0) [] := ⟨fun c hc => (by cases hc), by simp, .inl ⟨rfl, rfl⟩⟩
theorem Row.empty {w : World} {E : TypeId} {sz : Nat} {g : Nat} (hg : w.heap[g]? = some (.cells #[] E (0, 0))) : Row w E sz (.slice (some ⟨g, 0, none⟩) 0 0) [] :=
  ⟨fun c hc => (by cases hc), by simp, .inr ⟨g, 0, #[], rfl, Nat.zero_le _, hg, Nat.le_refl _, Nat.zero_le _, by simp, by simp⟩⟩
theorem Row.lit {w : World} {E : TypeId} {sz : Nat} {g : Nat} (css : List (List Value)) (hl : ∀ c ∈ css, c.length = sz) (hg : w.heap[g]? = some (.cells css.flatten.toArray E (0, 0))) (hn : css.length ≤ 4000000) : Row w E sz (.slice (some ⟨g, 0, none⟩) css.length css.length) css := by
  refine ⟨hl, by rw [flat_len css hl], .inr ⟨g, css.length, css.flatten.toArray, rfl, Nat.zero_le _, hg, Nat.le_refl _, by unfold maxLen; omega, by simpa using flat_len css hl, ?_⟩⟩
  rw [List.take_of_length_le]
  rw [flat_len css hl]
  exact Nat.le_refl _
theorem Row.frame {w w' : World} {E : TypeId} {sz : Nat} {v : Value} {css : List (List Value)} (h : Row w E sz v css) (hk : ∀ g ∈ ownL v, w'.heap[g]? = w.heap[g]?) : Row w' E sz v css := by
  obtain ⟨h1, h2, h3⟩ := h
  refine ⟨h1, h2, ?_⟩
  rcases h3 with h3 | ⟨g, cap, cur, e, hb, hg, h4⟩
  · exact .inl h3
  · refine .inr ⟨g, cap, cur, e, hb, (hk g ?_).trans hg, h4⟩
    rw [e]
    exact List.mem_singleton.2 rfl
theorem Row.form {w : World} {E : TypeId} {sz : Nat} {v : Value} {css : List (List Value)} (h : Row w E sz v css) : ∃ o cap, v = .slice o css.length cap ∧ css.length ≤ cap ∧ css.length ≤ maxLen := by
  rcases h.2.2 with ⟨rfl, h0⟩ | ⟨g, cap, cur, rfl, hb, hg, hn, hc, _⟩
  · exact ⟨none, 0, by rw [h0], by omega, by omega⟩
  · exact ⟨_, cap, rfl, hn, by omega⟩
theorem Row.lt {w : World} {E : TypeId} {sz : Nat} {v : Value} {css : List (List Value)} (h : Row w E sz v css) : ∀ g ∈ ownL v, g < w.heap.size ∧ ∃ c, w.heap[g]? = some (.cells c E (0, 0)) := by
  intro g hg
  rcases h.2.2 with ⟨rfl, h0⟩ | ⟨g', cap, cur, rfl, hb, hg', _⟩
  · cases hg
  · have : g = g' := List.mem_singleton.1 hg
    rw [this]
    exact ⟨heap_lt hg', cur, hg'⟩
theorem Row.cell {w : World} {E : TypeId} {sz : Nat} {v : Value} {css : List (List Value)} (h : Row w E sz v css) (hne : css ≠ []) : ∃ g cap, v = .slice (some ⟨g, 0, none⟩) css.length cap ∧ g ∈ ownL v ∧ ∀ i c j u, css[i]? = some c → c[j]? = some u → w.cell? ⟨g, i * sz + j, none⟩ = some u := by
  rcases h.2.2 with ⟨rfl, h0⟩ | ⟨g, cap, cur, rfl, hb, hg, hn, hc, hs, ht⟩
  · exact absurd (List.length_eq_zero_iff.1 h0) hne
  · refine ⟨g, cap, rfl, List.mem_singleton.2 rfl, fun i c j u hi hj => ?_⟩
    have hlt : i < css.length := (List.getElem?_eq_some_iff.1 hi).1
    have hlen := h.1 c (List.mem_of_getElem? hi)
    have hj2 : j < sz := by
      have := (List.getElem?_eq_some_iff.1 hj).1
      omega
    refine owns_cell hg ht (i * sz + j) ?_ u (flat_get css h.1 i c j u hi hj)
    have h6 : (i + 1) * sz ≤ css.length * sz := Nat.mul_le_mul_right sz hlt
    rw [Nat.add_mul, Nat.one_mul] at h6
    omega
theorem Row.append {P : Program} {T E : TypeId} {i0 : TypeInfo} {z : Value} {sz bytes : Nat} (hT : P.underlying T = some (.slice E)) (hi : P.info? E = some i0) (hz : i0.zero = some z) (hsz : i0.size = sz) (hby : i0.bytes = bytes) (hzs : z.cells.size = sz) (h0 : 0 < sz) (hb : bytes ≤ 1000)
    {w : World} {v : Value} {css : List (List Value)} (h : Row w E sz v css) (hn : css.length ≤ 4000000) {a : Nat} {c : List Value} (hc : c.length = sz) (hcell : ∀ j u, c[j]? = some u → w.cell? ⟨a, j, none⟩ = some u) (h1 : ∀ u ∈ c, u.oneCell' = true) (ty : TypeId) :
    ∃ o' n' c' w', (Builtin.append_ #[T, T] ty #[v, .slice (some ⟨a, 0, none⟩) 1 1]).run P w = .ok (.slice o' n' c') w' ∧ Row w' E sz (.slice o' n' c') (css ++ [c]) ∧ w.grownBy w' v.ownBlock ∧ ((Value.slice o' n' c').ownBlock = v.ownBlock ∨ (Value.slice o' n' c').ownBlock = some w.heap.size) := by
  have hbt : (css.length + 1) * bytes ≤ 140737488355328 := by
    have h5 : (css.length + 1) * bytes ≤ 4000001 * 1000 := Nat.mul_le_mul (by omega) hb
    omega
  obtain ⟨v', w', hr, hown, hgr, -, hbk⟩ := run_append_own_at (P := P) w 0 T ty E i0 z sz bytes hT hi hz hsz hby hzs h0 v css.length css.flatten h.2 ⟨a, 0, none⟩ 1 1 c (by rw [hc, Nat.one_mul]) (fun j u hu => by
    have h9 := hcell j u hu
    unfold Addr.add
    split
    · rename_i e0
      rw [e0] at h9
      exact h9
    · simpa using h9) h1 (by unfold maxLen; omega) hbt (Nat.zero_le _)
  obtain ⟨o', cap', rfl⟩ := owns_form hown
  refine ⟨o', _, cap', w', hr, ⟨fun d hd => ?_, ?_⟩, hgr, hbk⟩
  · rcases List.mem_append.1 hd with hd | hd
    · exact h.1 d hd
    · rw [List.mem_singleton] at hd
      rw [hd, hc]
  · rw [List.length_append, List.length_singleton, List.flatten_append, List.flatten_singleton]
    exact hown

/-- A row in new memory: what its elements are, and its blocks. -/
def RowS {α : Type} (w : World) (R : α → List Value → List Nat → Prop) (E : TypeId) (sz : Nat) (v : Value) (xs : List α) (bs : List Nat) : Prop :=
  xs.length ≤ 4000000 ∧ ∃ css bss, Row w E sz v css ∧ All3 R xs css bss ∧ bs = ownL v ++ bss.flatten
theorem RowS.frame {α : Type} {w w' : World} {R R' : α → List Value → List Nat → Prop} {E : TypeId} {sz : Nat} {v : Value} {xs : List α} {bs : List Nat} (h : RowS w R E sz v xs bs) (hk : ∀ b ∈ bs, w'.heap[b]? = w.heap[b]?) (hR : ∀ x cs b, (∀ k ∈ b, k ∈ bs) → R x cs b → R' x cs b) : RowS w' R' E sz v xs bs := by
  obtain ⟨h0, css, bss, h1, h2, rfl⟩ := h
  refine ⟨h0, css, bss, h1.frame fun g hg => hk g (List.mem_append_left _ hg), h2.mono fun a b c hc => hR a b c fun k hk2 => ?_, rfl⟩
  exact List.mem_append_right _ (List.mem_flatten.2 ⟨c, hc, hk2⟩)
theorem RowS.nil {α : Type} (w : World) (R : α → List Value → List Nat → Prop) (E : TypeId) (sz : Nat) : RowS w R E sz (.slice none 0 0) [] [] := ⟨Nat.zero_le _, [], [], Row.nil w E sz, trivial, rfl⟩
theorem RowS.form {α : Type} {w : World} {R : α → List Value → List Nat → Prop} {E : TypeId} {sz : Nat} {v : Value} {xs : List α} {bs : List Nat} (h : RowS w R E sz v xs bs) : ∃ o cap, v = .slice o xs.length cap ∧ Fits xs.length cap := by
  obtain ⟨h0, css, bss, h1, h2, rfl⟩ := h
  obtain ⟨o, cap, e, h3, h4⟩ := h1.form
  rw [h2.len.1] at e h3 h4
  exact ⟨o, cap, e, h4, h3⟩
theorem RowS.lt {α : Type} {w : World} {R : α → List Value → List Nat → Prop} {E : TypeId} {sz : Nat} {v : Value} {xs : List α} {bs : List Nat} (h : RowS w R E sz v xs bs) (hR : ∀ x cs b, R x cs b → ∀ k ∈ b, k < w.heap.size) : ∀ k ∈ bs, k < w.heap.size := by
  obtain ⟨h0, css, bss, h1, h2, rfl⟩ := h
  intro k hk
  rcases List.mem_append.1 hk with hk | hk
  · exact (h1.lt k hk).1
  · obtain ⟨c, hc, hk⟩ := List.mem_flatten.1 hk
    obtain ⟨i, hi⟩ := List.mem_iff_getElem?.1 hc
    have hlt : i < xs.length := by
      have := (List.getElem?_eq_some_iff.1 hi).1
      rw [h2.len.2] at this
      exact this
    obtain ⟨b, c2, e1, e2, e3⟩ := h2.get i _ (List.getElem?_eq_getElem hlt)
    rw [hi] at e2
    cases e2
    exact hR _ _ _ e3 k hk
theorem RowS.rowOf {α : Type} {K : Nat → Prop} {w : World} {R : α → List Value → List Nat → Prop} {R' : α → List Value → Prop} {E : TypeId} {sz : Nat} {v : Value} {xs : List α} {bs : List Nat} (h : RowS w R E sz v xs bs) (hK : ∀ b ∈ bs, K b) (hR : ∀ x cs b, (∀ k ∈ b, k ∈ bs) → R x cs b → R' x cs) : ∃ o cap, v = .slice o xs.length cap ∧ Fits xs.length cap ∧ RowOf K w R' sz o xs := by
  obtain ⟨o, cap, e, hf⟩ := h.form
  obtain ⟨h0, css, bss, h1, h2, rfl⟩ := h
  refine ⟨o, cap, e, hf, fun hne => ?_⟩
  have hne2 : css ≠ [] := fun e2 => hne (by
    have := h2.len.1
    rw [e2] at this
    exact List.length_eq_zero_iff.1 this.symm)
  obtain ⟨g, cap2, e3, hg, hc⟩ := h1.cell hne2
  rw [e] at e3
  simp only [Value.slice.injEq] at e3
  refine ⟨g, 0, e3.1, hK g (List.mem_append_left _ hg), (h1.lt g hg).1, fun i x hx => ?_⟩
  obtain ⟨b, c2, e1, e2, e4⟩ := h2.get i x hx
  refine ⟨b, h1.1 b (List.mem_of_getElem? e1), fun j u hu => ?_, hR x b c2 (fun k hk => List.mem_append_right _ (List.mem_flatten.2 ⟨c2, List.mem_of_getElem? e2, hk⟩)) e4⟩
  rw [Nat.zero_add]
  exact hc i b j u e1 hu
def strS (s : ByteArray) (cs : List Value) (bs : List Nat) : Prop := cs = [.string s] ∧ s.size ≤ maxLen ∧ bs = []
structure Seps where
  ex : Tr → List Value → List Nat → Prop
  de : Tr → List Value → List Nat → Prop
  al : Tr → List Value → List Nat → Prop
/-- Which cells are which tree, and its blocks. -/
def seps (w : World) : Nat → Seps
  | 0 => ⟨fun _ _ _ => False, fun _ _ _ => False, fun _ _ _ => False⟩
  | h + 1 =>
    let p := seps w h
    ⟨fun e cs bs => e.ss = [] ∧ e.s.size ≤ maxLen ∧ ∃ v1 v2 v3 b1 b2 b3, cs = [.int .i64 e.k, .string e.s, .int .i64 e.n, v1, v2, v3] ∧ bs = b1 ++ b2 ++ b3 ∧ RowS w p.ex 32 6 v1 e.l b1 ∧ RowS w p.de 44 9 v2 e.ds b2 ∧ RowS w p.al 54 8 v3 e.al b3,
     fun d cs bs => d.k = 0 ∧ d.n = 0 ∧ d.al = [] ∧ d.s.size ≤ maxLen ∧ ∃ e v1 ce v2 b1 b2 b3, d.l = [e] ∧ cs = [.string d.s, v1] ++ ce ++ [v2] ∧ bs = b1 ++ b2 ++ b3 ∧ RowS w strS 9 1 v1 d.ss b1 ∧ p.ex e ce b2 ∧ RowS w p.de 44 9 v2 d.ds b3,
     fun a cs bs => a.k = 0 ∧ a.n = 0 ∧ a.ds = [] ∧ a.al = [] ∧ a.s.size ≤ maxLen ∧ ∃ e v1 ce b1 b2, a.l = [e] ∧ cs = [.string a.s, v1] ++ ce ∧ bs = b1 ++ b2 ∧ RowS w strS 9 1 v1 a.ss b1 ∧ p.ex e ce b2⟩
def sp (w : World) (h i : Nat) : Tr → List Value → List Nat → Prop := if i = 0 then (seps w h).ex else if i = 1 then (seps w h).de else (seps w h).al
theorem strS_frame (x : ByteArray) (cs : List Value) (b : List Nat) (h : strS x cs b) : strS x cs b := h
theorem seps_frame {w w' : World} : ∀ h, (∀ e cs bs, (∀ b ∈ bs, w'.heap[b]? = w.heap[b]?) → (seps w h).ex e cs bs → (seps w' h).ex e cs bs) ∧ (∀ e cs bs, (∀ b ∈ bs, w'.heap[b]? = w.heap[b]?) → (seps w h).de e cs bs → (seps w' h).de e cs bs) ∧ (∀ e cs bs, (∀ b ∈ bs, w'.heap[b]? = w.heap[b]?) → (seps w h).al e cs bs → (seps w' h).al e cs bs) := by
  intro h
  induction h with
  | zero => exact ⟨fun _ _ _ _ h => h, fun _ _ _ _ h => h, fun _ _ _ _ h => h⟩
  | succ h ih =>
    obtain ⟨i1, i2, i3⟩ := ih
    refine ⟨fun e cs bs hk he => ?_, fun e cs bs hk he => ?_, fun e cs bs hk he => ?_⟩
    · obtain ⟨e0, e1, v1, v2, v3, b1, b2, b3, rfl, rfl, r1, r2, r3⟩ := he
      have k1 : ∀ b ∈ b1, w'.heap[b]? = w.heap[b]? := fun b hb => hk b (by simp [hb])
      have k2 : ∀ b ∈ b2, w'.heap[b]? = w.heap[b]? := fun b hb => hk b (by simp [hb])
      have k3 : ∀ b ∈ b3, w'.heap[b]? = w.heap[b]? := fun b hb => hk b (by simp [hb])
      exact ⟨e0, e1, v1, v2, v3, b1, b2, b3, rfl, rfl, r1.frame k1 fun x c b hb => i1 x c b fun k hk => k1 k (hb k hk), r2.frame k2 fun x c b hb => i2 x c b fun k hk => k2 k (hb k hk), r3.frame k3 fun x c b hb => i3 x c b fun k hk => k3 k (hb k hk)⟩
    · obtain ⟨d0, d1, d2, d3, e, v1, ce, v2, b1, b2, b3, d4, rfl, rfl, r1, r2, r3⟩ := he
      have k1 : ∀ b ∈ b1, w'.heap[b]? = w.heap[b]? := fun b hb => hk b (by simp [hb])
      have k2 : ∀ b ∈ b2, w'.heap[b]? = w.heap[b]? := fun b hb => hk b (by simp [hb])
      have k3 : ∀ b ∈ b3, w'.heap[b]? = w.heap[b]? := fun b hb => hk b (by simp [hb])
      exact ⟨d0, d1, d2, d3, e, v1, ce, v2, b1, b2, b3, d4, rfl, rfl, r1.frame k1 fun _ _ _ _ h => h, i1 _ _ _ k2 r2, r3.frame k3 fun x c b hb => i2 x c b fun k hk => k3 k (hb k hk)⟩
    · obtain ⟨d0, d1, d2, d3, d5, e, v1, ce, b1, b2, d4, rfl, rfl, r1, r2⟩ := he
      have k1 : ∀ b ∈ b1, w'.heap[b]? = w.heap[b]? := fun b hb => hk b (by simp [hb])
      have k2 : ∀ b ∈ b2, w'.heap[b]? = w.heap[b]? := fun b hb => hk b (by simp [hb])
      exact ⟨d0, d1, d2, d3, d5, e, v1, ce, b1, b2, d4, rfl, rfl, r1.frame k1 fun _ _ _ _ h => h, i1 _ _ _ k2 r2⟩
theorem seps_up {w : World} : ∀ h, (∀ e cs bs, (seps w h).ex e cs bs → (seps w (h + 1)).ex e cs bs) ∧ (∀ e cs bs, (seps w h).de e cs bs → (seps w (h + 1)).de e cs bs) ∧ (∀ e cs bs, (seps w h).al e cs bs → (seps w (h + 1)).al e cs bs) := by
  intro h
  induction h with
  | zero => exact ⟨fun _ _ _ h => h.elim, fun _ _ _ h => h.elim, fun _ _ _ h => h.elim⟩
  | succ h ih =>
    obtain ⟨i1, i2, i3⟩ := ih
    refine ⟨fun e cs bs he => ?_, fun e cs bs he => ?_, fun e cs bs he => ?_⟩
    · obtain ⟨e0, e1, v1, v2, v3, b1, b2, b3, rfl, rfl, r1, r2, r3⟩ := he
      exact ⟨e0, e1, v1, v2, v3, b1, b2, b3, rfl, rfl, r1.frame (fun _ _ => rfl) fun x c b _ => i1 x c b, r2.frame (fun _ _ => rfl) fun x c b _ => i2 x c b, r3.frame (fun _ _ => rfl) fun x c b _ => i3 x c b⟩
    · obtain ⟨d0, d1, d2, d3, e, v1, ce, v2, b1, b2, b3, d4, rfl, rfl, r1, r2, r3⟩ := he
      exact ⟨d0, d1, d2, d3, e, v1, ce, v2, b1, b2, b3, d4, rfl, rfl, r1, i1 _ _ _ r2, r3.frame (fun _ _ => rfl) fun x c b _ => i2 x c b⟩
    · obtain ⟨d0, d1, d2, d3, d5, e, v1, ce, b1, b2, d4, rfl, rfl, r1, r2⟩ := he
      exact ⟨d0, d1, d2, d3, d5, e, v1, ce, b1, b2, d4, rfl, rfl, r1, i1 _ _ _ r2⟩
theorem sp_up {w : World} {h h' i : Nat} (hh : h ≤ h') {x : Tr} {cs : List Value} {bs : List Nat} (k : sp w h i x cs bs) : sp w h' i x cs bs := by
  have key : ∀ n, sp w (h + n) i x cs bs := by
    intro n
    induction n with
    | zero => exact k
    | succ n ih =>
      unfold sp at ih ⊢
      rw [← Nat.add_assoc]
      split
      · rename_i e; rw [if_pos e] at ih; exact (seps_up _).1 _ _ _ ih
      · rename_i e; rw [if_neg e] at ih
        split
        · rename_i e2; rw [if_pos e2] at ih; exact (seps_up _).2.1 _ _ _ ih
        · rename_i e2; rw [if_neg e2] at ih; exact (seps_up _).2.2 _ _ _ ih
  have := key (h' - h)
  rwa [Nat.add_sub_cancel' hh] at this
theorem sp_frame {w w' : World} {h i : Nat} {x : Tr} {cs : List Value} {bs : List Nat} (k : sp w h i x cs bs) (hk : ∀ b ∈ bs, w'.heap[b]? = w.heap[b]?) : sp w' h i x cs bs := by
  unfold sp at k ⊢
  split
  · rename_i e; rw [if_pos e] at k; exact (seps_frame h).1 _ _ _ hk k
  · rename_i e; rw [if_neg e] at k
    split
    · rename_i e2; rw [if_pos e2] at k; exact (seps_frame h).2.1 _ _ _ hk k
    · rename_i e2; rw [if_neg e2] at k; exact (seps_frame h).2.2 _ _ _ hk k
theorem seps_lt {w : World} : ∀ h, (∀ e cs bs, (seps w h).ex e cs bs → ∀ b ∈ bs, b < w.heap.size) ∧ (∀ e cs bs, (seps w h).de e cs bs → ∀ b ∈ bs, b < w.heap.size) ∧ (∀ e cs bs, (seps w h).al e cs bs → ∀ b ∈ bs, b < w.heap.size) := by
  intro h
  induction h with
  | zero => exact ⟨fun _ _ _ h => h.elim, fun _ _ _ h => h.elim, fun _ _ _ h => h.elim⟩
  | succ h ih =>
    obtain ⟨i1, i2, i3⟩ := ih
    have st : ∀ {v : Value} {xs : List ByteArray} {bs : List Nat}, RowS w strS 9 1 v xs bs → ∀ b ∈ bs, b < w.heap.size := fun r => r.lt fun _ _ b h k hk => by
      obtain ⟨-, -, rfl⟩ := h
      cases hk
    refine ⟨fun e cs bs he => ?_, fun e cs bs he => ?_, fun e cs bs he => ?_⟩
    · obtain ⟨e0, e1, v1, v2, v3, b1, b2, b3, rfl, rfl, r1, r2, r3⟩ := he
      intro b hb
      rcases List.mem_append.1 hb with hb | hb
      · rcases List.mem_append.1 hb with hb | hb
        · exact r1.lt i1 b hb
        · exact r2.lt i2 b hb
      · exact r3.lt i3 b hb
    · obtain ⟨d0, d1, d2, d3, e, v1, ce, v2, b1, b2, b3, d4, rfl, rfl, r1, r2, r3⟩ := he
      intro b hb
      rcases List.mem_append.1 hb with hb | hb
      · rcases List.mem_append.1 hb with hb | hb
        · exact st r1 b hb
        · exact i1 _ _ _ r2 b hb
      · exact r3.lt i2 b hb
    · obtain ⟨d0, d1, d2, d3, d5, e, v1, ce, b1, b2, d4, rfl, rfl, r1, r2⟩ := he
      intro b hb
      rcases List.mem_append.1 hb with hb | hb
      · exact st r1 b hb
      · exact i1 _ _ _ r2 b hb
theorem ex_len {w : World} {h : Nat} {e : Tr} {cs : List Value} {bs : List Nat} (k : (seps w h).ex e cs bs) : cs.length = 6 := by
  cases h with
  | zero => exact k.elim
  | succ h =>
    obtain ⟨e0, e1, v1, v2, v3, b1, b2, b3, rfl, -⟩ := k
    rfl
/-- Trees in new memory are read. -/
theorem seps_reads {K : Nat → Prop} {w : World} : ∀ h, (∀ e cs bs, (∀ b ∈ bs, K b) → (seps w h).ex e cs bs → (reads K w h).ex e cs) ∧ (∀ e cs bs, (∀ b ∈ bs, K b) → (seps w h).de e cs bs → (reads K w h).de e cs) ∧ (∀ e cs bs, (∀ b ∈ bs, K b) → (seps w h).al e cs bs → (reads K w h).al e cs) := by
  intro h
  induction h with
  | zero => exact ⟨fun _ _ _ _ h => h, fun _ _ _ _ h => h, fun _ _ _ _ h => h⟩
  | succ h ih =>
    obtain ⟨i1, i2, i3⟩ := ih
    have st : ∀ {v : Value} {xs : List ByteArray} {bs : List Nat}, (∀ b ∈ bs, K b) → RowS w strS 9 1 v xs bs → ∃ o cap, v = .slice o xs.length cap ∧ Fits xs.length cap ∧ RowOf K w strR 1 o xs := fun hk r => r.rowOf hk fun _ _ _ _ h => ⟨h.1, h.2.1⟩
    refine ⟨fun e cs bs hk he => ?_, fun e cs bs hk he => ?_, fun e cs bs hk he => ?_⟩
    · obtain ⟨e0, e1, v1, v2, v3, b1, b2, b3, rfl, rfl, r1, r2, r3⟩ := he
      have k1 : ∀ b ∈ b1, K b := fun b hb => hk b (by simp [hb])
      have k2 : ∀ b ∈ b2, K b := fun b hb => hk b (by simp [hb])
      have k3 : ∀ b ∈ b3, K b := fun b hb => hk b (by simp [hb])
      obtain ⟨o1, c1, rfl, f1, q1⟩ := r1.rowOf k1 fun x c b hb => i1 x c b fun k hk => k1 k (hb k hk)
      obtain ⟨o2, c2, rfl, f2, q2⟩ := r2.rowOf k2 fun x c b hb => i2 x c b fun k hk => k2 k (hb k hk)
      obtain ⟨o3, c3, rfl, f3, q3⟩ := r3.rowOf k3 fun x c b hb => i3 x c b fun k hk => k3 k (hb k hk)
      exact ⟨e0, o1, c1, o2, c2, o3, c3, rfl, e1, f1, f2, f3, q1, q2, q3⟩
    · obtain ⟨d0, d1, d2, d3, e, v1, ce, v2, b1, b2, b3, d4, rfl, rfl, r1, r2, r3⟩ := he
      have k1 : ∀ b ∈ b1, K b := fun b hb => hk b (by simp [hb])
      have k2 : ∀ b ∈ b2, K b := fun b hb => hk b (by simp [hb])
      have k3 : ∀ b ∈ b3, K b := fun b hb => hk b (by simp [hb])
      obtain ⟨o1, c1, rfl, f1, q1⟩ := st k1 r1
      obtain ⟨o2, c2, rfl, f2, q2⟩ := r3.rowOf k3 fun x c b hb => i2 x c b fun k hk => k3 k (hb k hk)
      exact ⟨d0, d1, d2, e, o1, c1, ce, o2, c2, d4, rfl, d3, f1, f2, q1, ex_len r2, i1 _ _ _ k2 r2, q2⟩
    · obtain ⟨d0, d1, d2, d3, d5, e, v1, ce, b1, b2, d4, rfl, rfl, r1, r2⟩ := he
      have k1 : ∀ b ∈ b1, K b := fun b hb => hk b (by simp [hb])
      have k2 : ∀ b ∈ b2, K b := fun b hb => hk b (by simp [hb])
      obtain ⟨o1, c1, rfl, f1, q1⟩ := st k1 r1
      exact ⟨d0, d1, d2, d3, e, o1, c1, ce, d4, rfl, d5, f1, q1, ex_len r2, i1 _ _ _ k2 r2⟩
end Go.Proofs.Ytgeckgdmkjddpaa.Rd
